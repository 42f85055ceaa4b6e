/- Contracts, in this order: Calls run, and their answers. -/
import Derived.Test.YtmioikbnjflldaaGreatDoorSq26
namespace Go.Proofs.YtmioikbnjflldaaGreatDoor
open Go Go.RowKit
namespace Ev
set_option maxRecDepth 100000
noncomputable def ste0 : Fact := ⟨109, [.int .u64 (9223372036854775781)], .bool false⟩
theorem ste0_ok : ste0.ok := Fact.by_run stdAll_ok (n := 300) (by kernel_rfl) (by kernel_rfl)
noncomputable def ste1 : Fact := ⟨109, [.int .u64 (9223372036854775777)], .bool false⟩
theorem ste1_ok : ste1.ok := Fact.by_run stdAll_ok (n := 300) (by kernel_rfl) (by kernel_rfl)
noncomputable def ste2 : Fact := ⟨109, [.int .u64 (9223372036854775773)], .bool false⟩
theorem ste2_ok : ste2.ok := Fact.by_run stdAll_ok (n := 300) (by kernel_rfl) (by kernel_rfl)
noncomputable def ste3 : Fact := ⟨109, [.int .u64 (9223372036854775769)], .bool false⟩
theorem ste3_ok : ste3.ok := Fact.by_run stdAll_ok (n := 300) (by kernel_rfl) (by kernel_rfl)
noncomputable def ste4 : Fact := ⟨109, [.int .u64 (9223372036854775765)], .bool false⟩
theorem ste4_ok : ste4.ok := Fact.by_run stdAll_ok (n := 300) (by kernel_rfl) (by kernel_rfl)
noncomputable def ste5 : Fact := ⟨109, [.int .u64 (9223372036854775761)], .bool false⟩
theorem ste5_ok : ste5.ok := Fact.by_run stdAll_ok (n := 300) (by kernel_rfl) (by kernel_rfl)
noncomputable def ste6 : Fact := ⟨109, [.int .u64 (9223372036854775757)], .bool false⟩
theorem ste6_ok : ste6.ok := Fact.by_run stdAll_ok (n := 300) (by kernel_rfl) (by kernel_rfl)
noncomputable def ste7 : Fact := ⟨109, [.int .u64 (9223372036854775753)], .bool false⟩
theorem ste7_ok : ste7.ok := Fact.by_run stdAll_ok (n := 300) (by kernel_rfl) (by kernel_rfl)
noncomputable def ste8 : Fact := ⟨109, [.int .u64 (9223372036854775749)], .bool false⟩
theorem ste8_ok : ste8.ok := Fact.by_run stdAll_ok (n := 300) (by kernel_rfl) (by kernel_rfl)
noncomputable def ste9 : Fact := ⟨109, [.int .u64 (9223372036854775745)], .bool false⟩
theorem ste9_ok : ste9.ok := Fact.by_run stdAll_ok (n := 300) (by kernel_rfl) (by kernel_rfl)
noncomputable def ste10 : Fact := ⟨109, [.int .u64 (9223372036854775741)], .bool false⟩
theorem ste10_ok : ste10.ok := Fact.by_run stdAll_ok (n := 300) (by kernel_rfl) (by kernel_rfl)
noncomputable def ste11 : Fact := ⟨109, [.int .u64 (9223372036854775737)], .bool false⟩
theorem ste11_ok : ste11.ok := Fact.by_run stdAll_ok (n := 300) (by kernel_rfl) (by kernel_rfl)
noncomputable def ste12 : Fact := ⟨109, [.int .u64 (9223372036854775733)], .bool false⟩
theorem ste12_ok : ste12.ok := Fact.by_run stdAll_ok (n := 300) (by kernel_rfl) (by kernel_rfl)
noncomputable def ste13 : Fact := ⟨109, [.int .u64 (9223372036854775729)], .bool false⟩
theorem ste13_ok : ste13.ok := Fact.by_run stdAll_ok (n := 300) (by kernel_rfl) (by kernel_rfl)
noncomputable def ste14 : Fact := ⟨109, [.int .u64 (9223372036854775725)], .bool false⟩
theorem ste14_ok : ste14.ok := Fact.by_run stdAll_ok (n := 300) (by kernel_rfl) (by kernel_rfl)
noncomputable def ste15 : Fact := ⟨109, [.int .u64 (9223372036854775721)], .bool false⟩
theorem ste15_ok : ste15.ok := Fact.by_run stdAll_ok (n := 300) (by kernel_rfl) (by kernel_rfl)
noncomputable def ste16 : Fact := ⟨109, [.int .u64 (9223372036854775717)], .bool false⟩
theorem ste16_ok : ste16.ok := Fact.by_run stdAll_ok (n := 300) (by kernel_rfl) (by kernel_rfl)
noncomputable def ste17 : Fact := ⟨109, [.int .u64 (9223372036854775713)], .bool false⟩
theorem ste17_ok : ste17.ok := Fact.by_run stdAll_ok (n := 300) (by kernel_rfl) (by kernel_rfl)
noncomputable def ste18 : Fact := ⟨109, [.int .u64 (9223372036854775709)], .bool false⟩
theorem ste18_ok : ste18.ok := Fact.by_run stdAll_ok (n := 300) (by kernel_rfl) (by kernel_rfl)
noncomputable def ste19 : Fact := ⟨109, [.int .u64 (9223372036854775705)], .bool false⟩
theorem ste19_ok : ste19.ok := Fact.by_run stdAll_ok (n := 300) (by kernel_rfl) (by kernel_rfl)
noncomputable def ste20 : Fact := ⟨109, [.int .u64 (9223372036854775701)], .bool false⟩
theorem ste20_ok : ste20.ok := Fact.by_run stdAll_ok (n := 300) (by kernel_rfl) (by kernel_rfl)
noncomputable def ste21 : Fact := ⟨109, [.int .u64 (9223372036854775697)], .bool false⟩
theorem ste21_ok : ste21.ok := Fact.by_run stdAll_ok (n := 300) (by kernel_rfl) (by kernel_rfl)
noncomputable def ste22 : Fact := ⟨109, [.int .u64 (9223372036854775693)], .bool false⟩
theorem ste22_ok : ste22.ok := Fact.by_run stdAll_ok (n := 300) (by kernel_rfl) (by kernel_rfl)
noncomputable def ste23 : Fact := ⟨109, [.int .u64 (9223372036854775689)], .bool false⟩
theorem ste23_ok : ste23.ok := Fact.by_run stdAll_ok (n := 300) (by kernel_rfl) (by kernel_rfl)
noncomputable def ste24 : Fact := ⟨109, [.int .u64 (9223372036854775685)], .bool false⟩
theorem ste24_ok : ste24.ok := Fact.by_run stdAll_ok (n := 300) (by kernel_rfl) (by kernel_rfl)
noncomputable def ste25 : Fact := ⟨109, [.int .u64 (9223372036854775681)], .bool false⟩
theorem ste25_ok : ste25.ok := Fact.by_run stdAll_ok (n := 300) (by kernel_rfl) (by kernel_rfl)
noncomputable def ste26 : Fact := ⟨109, [.int .u64 (9223372036854775677)], .bool false⟩
theorem ste26_ok : ste26.ok := Fact.by_run stdAll_ok (n := 300) (by kernel_rfl) (by kernel_rfl)
noncomputable def ste27 : Fact := ⟨109, [.int .u64 (9223372036854775673)], .bool false⟩
theorem ste27_ok : ste27.ok := Fact.by_run stdAll_ok (n := 300) (by kernel_rfl) (by kernel_rfl)
noncomputable def ste28 : Fact := ⟨109, [.int .u64 (9223372036854775669)], .bool false⟩
theorem ste28_ok : ste28.ok := Fact.by_run stdAll_ok (n := 300) (by kernel_rfl) (by kernel_rfl)
noncomputable def ste29 : Fact := ⟨109, [.int .u64 (9223372036854775665)], .bool false⟩
theorem ste29_ok : ste29.ok := Fact.by_run stdAll_ok (n := 300) (by kernel_rfl) (by kernel_rfl)
noncomputable def ste30 : Fact := ⟨109, [.int .u64 (9223372036854775661)], .bool false⟩
theorem ste30_ok : ste30.ok := Fact.by_run stdAll_ok (n := 300) (by kernel_rfl) (by kernel_rfl)
noncomputable def ste31 : Fact := ⟨109, [.int .u64 (9223372036854775657)], .bool false⟩
theorem ste31_ok : ste31.ok := Fact.by_run stdAll_ok (n := 300) (by kernel_rfl) (by kernel_rfl)
noncomputable def ste32 : Fact := ⟨109, [.int .u64 (9223372036854775653)], .bool false⟩
theorem ste32_ok : ste32.ok := Fact.by_run stdAll_ok (n := 300) (by kernel_rfl) (by kernel_rfl)
noncomputable def ste33 : Fact := ⟨109, [.int .u64 (9223372036854775649)], .bool false⟩
theorem ste33_ok : ste33.ok := Fact.by_run stdAll_ok (n := 300) (by kernel_rfl) (by kernel_rfl)
noncomputable def ste34 : Fact := ⟨109, [.int .u64 (9223372036854775645)], .bool false⟩
theorem ste34_ok : ste34.ok := Fact.by_run stdAll_ok (n := 300) (by kernel_rfl) (by kernel_rfl)
end Ev
end Go.Proofs.YtmioikbnjflldaaGreatDoor
