/- Contracts, in this order: Calls run, and their answers. -/
import Derived.Test.YtmioikbnjflldaaGreatDoorSq26
namespace Go.Proofs.YtmioikbnjflldaaGreatDoor
open Go Go.RowKit
namespace Ev
set_option maxRecDepth 100000
noncomputable def ste35 : Fact := ⟨109, [.int .u64 (9223372036854775779)], .bool false⟩
theorem ste35_ok : ste35.ok := Fact.by_run stdAll_ok (n := 300) (by kernel_rfl) (by kernel_rfl)
noncomputable def ste36 : Fact := ⟨109, [.int .u64 (9223372036854775775)], .bool false⟩
theorem ste36_ok : ste36.ok := Fact.by_run stdAll_ok (n := 300) (by kernel_rfl) (by kernel_rfl)
noncomputable def ste37 : Fact := ⟨109, [.int .u64 (9223372036854775771)], .bool false⟩
theorem ste37_ok : ste37.ok := Fact.by_run stdAll_ok (n := 300) (by kernel_rfl) (by kernel_rfl)
noncomputable def ste38 : Fact := ⟨109, [.int .u64 (9223372036854775767)], .bool false⟩
theorem ste38_ok : ste38.ok := Fact.by_run stdAll_ok (n := 300) (by kernel_rfl) (by kernel_rfl)
noncomputable def ste39 : Fact := ⟨109, [.int .u64 (9223372036854775763)], .bool false⟩
theorem ste39_ok : ste39.ok := Fact.by_run stdAll_ok (n := 300) (by kernel_rfl) (by kernel_rfl)
noncomputable def ste40 : Fact := ⟨109, [.int .u64 (9223372036854775759)], .bool false⟩
theorem ste40_ok : ste40.ok := Fact.by_run stdAll_ok (n := 300) (by kernel_rfl) (by kernel_rfl)
noncomputable def ste41 : Fact := ⟨109, [.int .u64 (9223372036854775755)], .bool false⟩
theorem ste41_ok : ste41.ok := Fact.by_run stdAll_ok (n := 300) (by kernel_rfl) (by kernel_rfl)
noncomputable def ste42 : Fact := ⟨109, [.int .u64 (9223372036854775751)], .bool false⟩
theorem ste42_ok : ste42.ok := Fact.by_run stdAll_ok (n := 300) (by kernel_rfl) (by kernel_rfl)
noncomputable def ste43 : Fact := ⟨109, [.int .u64 (9223372036854775747)], .bool false⟩
theorem ste43_ok : ste43.ok := Fact.by_run stdAll_ok (n := 300) (by kernel_rfl) (by kernel_rfl)
noncomputable def ste44 : Fact := ⟨109, [.int .u64 (9223372036854775743)], .bool false⟩
theorem ste44_ok : ste44.ok := Fact.by_run stdAll_ok (n := 300) (by kernel_rfl) (by kernel_rfl)
noncomputable def ste45 : Fact := ⟨109, [.int .u64 (9223372036854775739)], .bool false⟩
theorem ste45_ok : ste45.ok := Fact.by_run stdAll_ok (n := 300) (by kernel_rfl) (by kernel_rfl)
noncomputable def ste46 : Fact := ⟨109, [.int .u64 (9223372036854775735)], .bool false⟩
theorem ste46_ok : ste46.ok := Fact.by_run stdAll_ok (n := 300) (by kernel_rfl) (by kernel_rfl)
noncomputable def ste47 : Fact := ⟨109, [.int .u64 (9223372036854775731)], .bool false⟩
theorem ste47_ok : ste47.ok := Fact.by_run stdAll_ok (n := 300) (by kernel_rfl) (by kernel_rfl)
noncomputable def ste48 : Fact := ⟨109, [.int .u64 (9223372036854775727)], .bool false⟩
theorem ste48_ok : ste48.ok := Fact.by_run stdAll_ok (n := 300) (by kernel_rfl) (by kernel_rfl)
noncomputable def ste49 : Fact := ⟨109, [.int .u64 (9223372036854775723)], .bool false⟩
theorem ste49_ok : ste49.ok := Fact.by_run stdAll_ok (n := 300) (by kernel_rfl) (by kernel_rfl)
noncomputable def ste50 : Fact := ⟨109, [.int .u64 (9223372036854775719)], .bool false⟩
theorem ste50_ok : ste50.ok := Fact.by_run stdAll_ok (n := 300) (by kernel_rfl) (by kernel_rfl)
noncomputable def ste51 : Fact := ⟨109, [.int .u64 (9223372036854775715)], .bool false⟩
theorem ste51_ok : ste51.ok := Fact.by_run stdAll_ok (n := 300) (by kernel_rfl) (by kernel_rfl)
noncomputable def ste52 : Fact := ⟨109, [.int .u64 (9223372036854775711)], .bool false⟩
theorem ste52_ok : ste52.ok := Fact.by_run stdAll_ok (n := 300) (by kernel_rfl) (by kernel_rfl)
noncomputable def ste53 : Fact := ⟨109, [.int .u64 (9223372036854775707)], .bool false⟩
theorem ste53_ok : ste53.ok := Fact.by_run stdAll_ok (n := 300) (by kernel_rfl) (by kernel_rfl)
noncomputable def ste54 : Fact := ⟨109, [.int .u64 (9223372036854775703)], .bool false⟩
theorem ste54_ok : ste54.ok := Fact.by_run stdAll_ok (n := 300) (by kernel_rfl) (by kernel_rfl)
noncomputable def ste55 : Fact := ⟨109, [.int .u64 (9223372036854775699)], .bool false⟩
theorem ste55_ok : ste55.ok := Fact.by_run stdAll_ok (n := 300) (by kernel_rfl) (by kernel_rfl)
noncomputable def ste56 : Fact := ⟨109, [.int .u64 (9223372036854775695)], .bool false⟩
theorem ste56_ok : ste56.ok := Fact.by_run stdAll_ok (n := 300) (by kernel_rfl) (by kernel_rfl)
noncomputable def ste57 : Fact := ⟨109, [.int .u64 (9223372036854775691)], .bool false⟩
theorem ste57_ok : ste57.ok := Fact.by_run stdAll_ok (n := 300) (by kernel_rfl) (by kernel_rfl)
noncomputable def ste58 : Fact := ⟨109, [.int .u64 (9223372036854775687)], .bool false⟩
theorem ste58_ok : ste58.ok := Fact.by_run stdAll_ok (n := 300) (by kernel_rfl) (by kernel_rfl)
noncomputable def ste59 : Fact := ⟨109, [.int .u64 (9223372036854775683)], .bool false⟩
theorem ste59_ok : ste59.ok := Fact.by_run stdAll_ok (n := 300) (by kernel_rfl) (by kernel_rfl)
noncomputable def ste60 : Fact := ⟨109, [.int .u64 (9223372036854775679)], .bool false⟩
theorem ste60_ok : ste60.ok := Fact.by_run stdAll_ok (n := 300) (by kernel_rfl) (by kernel_rfl)
noncomputable def ste61 : Fact := ⟨109, [.int .u64 (9223372036854775675)], .bool false⟩
theorem ste61_ok : ste61.ok := Fact.by_run stdAll_ok (n := 300) (by kernel_rfl) (by kernel_rfl)
noncomputable def ste62 : Fact := ⟨109, [.int .u64 (9223372036854775671)], .bool false⟩
theorem ste62_ok : ste62.ok := Fact.by_run stdAll_ok (n := 300) (by kernel_rfl) (by kernel_rfl)
noncomputable def ste63 : Fact := ⟨109, [.int .u64 (9223372036854775667)], .bool false⟩
theorem ste63_ok : ste63.ok := Fact.by_run stdAll_ok (n := 300) (by kernel_rfl) (by kernel_rfl)
noncomputable def ste64 : Fact := ⟨109, [.int .u64 (9223372036854775663)], .bool false⟩
theorem ste64_ok : ste64.ok := Fact.by_run stdAll_ok (n := 300) (by kernel_rfl) (by kernel_rfl)
noncomputable def ste65 : Fact := ⟨109, [.int .u64 (9223372036854775659)], .bool false⟩
theorem ste65_ok : ste65.ok := Fact.by_run stdAll_ok (n := 300) (by kernel_rfl) (by kernel_rfl)
noncomputable def ste66 : Fact := ⟨109, [.int .u64 (9223372036854775655)], .bool false⟩
theorem ste66_ok : ste66.ok := Fact.by_run stdAll_ok (n := 300) (by kernel_rfl) (by kernel_rfl)
noncomputable def ste67 : Fact := ⟨109, [.int .u64 (9223372036854775651)], .bool false⟩
theorem ste67_ok : ste67.ok := Fact.by_run stdAll_ok (n := 300) (by kernel_rfl) (by kernel_rfl)
noncomputable def ste68 : Fact := ⟨109, [.int .u64 (9223372036854775647)], .bool false⟩
theorem ste68_ok : ste68.ok := Fact.by_run stdAll_ok (n := 300) (by kernel_rfl) (by kernel_rfl)
noncomputable def ste69 : Fact := ⟨109, [.int .u64 (9223372036854775643)], .bool true⟩
theorem ste69_ok : ste69.ok := Fact.by_run stdAll_ok (n := 300) (by kernel_rfl) (by kernel_rfl)
end Ev
end Go.Proofs.YtmioikbnjflldaaGreatDoor
