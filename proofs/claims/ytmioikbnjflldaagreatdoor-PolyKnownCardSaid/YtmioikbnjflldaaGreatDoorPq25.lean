/- Contracts, in this order: Calls run, and their answers. -/
import Derived.Test.YtmioikbnjflldaaGreatDoorPq24
namespace Go.Proofs.YtmioikbnjflldaaGreatDoor
open Go Go.RowKit
namespace Ev
set_option maxRecDepth 100000
noncomputable def pkb0 : Fact := ⟨109, [.int .u64 (9223372036854775781)], .bool false⟩
theorem pkb0_ok : pkb0.ok := Fact.by_run pkaAll_ok (n := 300) (by kernel_rfl) (by kernel_rfl)
noncomputable def pkb1 : Fact := ⟨109, [.int .u64 (9223372036854775777)], .bool false⟩
theorem pkb1_ok : pkb1.ok := Fact.by_run pkaAll_ok (n := 300) (by kernel_rfl) (by kernel_rfl)
noncomputable def pkb2 : Fact := ⟨109, [.int .u64 (9223372036854775773)], .bool false⟩
theorem pkb2_ok : pkb2.ok := Fact.by_run pkaAll_ok (n := 300) (by kernel_rfl) (by kernel_rfl)
noncomputable def pkb3 : Fact := ⟨109, [.int .u64 (9223372036854775769)], .bool false⟩
theorem pkb3_ok : pkb3.ok := Fact.by_run pkaAll_ok (n := 300) (by kernel_rfl) (by kernel_rfl)
noncomputable def pkb4 : Fact := ⟨109, [.int .u64 (9223372036854775765)], .bool false⟩
theorem pkb4_ok : pkb4.ok := Fact.by_run pkaAll_ok (n := 300) (by kernel_rfl) (by kernel_rfl)
noncomputable def pkb5 : Fact := ⟨109, [.int .u64 (9223372036854775761)], .bool false⟩
theorem pkb5_ok : pkb5.ok := Fact.by_run pkaAll_ok (n := 300) (by kernel_rfl) (by kernel_rfl)
noncomputable def pkb6 : Fact := ⟨109, [.int .u64 (9223372036854775757)], .bool false⟩
theorem pkb6_ok : pkb6.ok := Fact.by_run pkaAll_ok (n := 300) (by kernel_rfl) (by kernel_rfl)
noncomputable def pkb7 : Fact := ⟨109, [.int .u64 (9223372036854775753)], .bool false⟩
theorem pkb7_ok : pkb7.ok := Fact.by_run pkaAll_ok (n := 300) (by kernel_rfl) (by kernel_rfl)
noncomputable def pkb8 : Fact := ⟨109, [.int .u64 (9223372036854775749)], .bool false⟩
theorem pkb8_ok : pkb8.ok := Fact.by_run pkaAll_ok (n := 300) (by kernel_rfl) (by kernel_rfl)
noncomputable def pkb9 : Fact := ⟨109, [.int .u64 (9223372036854775745)], .bool false⟩
theorem pkb9_ok : pkb9.ok := Fact.by_run pkaAll_ok (n := 300) (by kernel_rfl) (by kernel_rfl)
noncomputable def pkb10 : Fact := ⟨109, [.int .u64 (9223372036854775741)], .bool false⟩
theorem pkb10_ok : pkb10.ok := Fact.by_run pkaAll_ok (n := 300) (by kernel_rfl) (by kernel_rfl)
noncomputable def pkb11 : Fact := ⟨109, [.int .u64 (9223372036854775737)], .bool false⟩
theorem pkb11_ok : pkb11.ok := Fact.by_run pkaAll_ok (n := 300) (by kernel_rfl) (by kernel_rfl)
noncomputable def pkb12 : Fact := ⟨109, [.int .u64 (9223372036854775733)], .bool false⟩
theorem pkb12_ok : pkb12.ok := Fact.by_run pkaAll_ok (n := 300) (by kernel_rfl) (by kernel_rfl)
noncomputable def pkb13 : Fact := ⟨109, [.int .u64 (9223372036854775729)], .bool false⟩
theorem pkb13_ok : pkb13.ok := Fact.by_run pkaAll_ok (n := 300) (by kernel_rfl) (by kernel_rfl)
noncomputable def pkb14 : Fact := ⟨109, [.int .u64 (9223372036854775725)], .bool false⟩
theorem pkb14_ok : pkb14.ok := Fact.by_run pkaAll_ok (n := 300) (by kernel_rfl) (by kernel_rfl)
noncomputable def pkb15 : Fact := ⟨109, [.int .u64 (9223372036854775721)], .bool false⟩
theorem pkb15_ok : pkb15.ok := Fact.by_run pkaAll_ok (n := 300) (by kernel_rfl) (by kernel_rfl)
noncomputable def pkb16 : Fact := ⟨109, [.int .u64 (9223372036854775717)], .bool false⟩
theorem pkb16_ok : pkb16.ok := Fact.by_run pkaAll_ok (n := 300) (by kernel_rfl) (by kernel_rfl)
noncomputable def pkb17 : Fact := ⟨109, [.int .u64 (9223372036854775713)], .bool false⟩
theorem pkb17_ok : pkb17.ok := Fact.by_run pkaAll_ok (n := 300) (by kernel_rfl) (by kernel_rfl)
noncomputable def pkb18 : Fact := ⟨109, [.int .u64 (9223372036854775709)], .bool false⟩
theorem pkb18_ok : pkb18.ok := Fact.by_run pkaAll_ok (n := 300) (by kernel_rfl) (by kernel_rfl)
noncomputable def pkb19 : Fact := ⟨109, [.int .u64 (9223372036854775705)], .bool false⟩
theorem pkb19_ok : pkb19.ok := Fact.by_run pkaAll_ok (n := 300) (by kernel_rfl) (by kernel_rfl)
noncomputable def pkb20 : Fact := ⟨109, [.int .u64 (9223372036854775701)], .bool false⟩
theorem pkb20_ok : pkb20.ok := Fact.by_run pkaAll_ok (n := 300) (by kernel_rfl) (by kernel_rfl)
noncomputable def pkb21 : Fact := ⟨109, [.int .u64 (9223372036854775697)], .bool false⟩
theorem pkb21_ok : pkb21.ok := Fact.by_run pkaAll_ok (n := 300) (by kernel_rfl) (by kernel_rfl)
noncomputable def pkb22 : Fact := ⟨109, [.int .u64 (9223372036854775693)], .bool false⟩
theorem pkb22_ok : pkb22.ok := Fact.by_run pkaAll_ok (n := 300) (by kernel_rfl) (by kernel_rfl)
noncomputable def pkb23 : Fact := ⟨109, [.int .u64 (9223372036854775689)], .bool false⟩
theorem pkb23_ok : pkb23.ok := Fact.by_run pkaAll_ok (n := 300) (by kernel_rfl) (by kernel_rfl)
noncomputable def pkb24 : Fact := ⟨109, [.int .u64 (9223372036854775685)], .bool false⟩
theorem pkb24_ok : pkb24.ok := Fact.by_run pkaAll_ok (n := 300) (by kernel_rfl) (by kernel_rfl)
noncomputable def pkb25 : Fact := ⟨109, [.int .u64 (9223372036854775681)], .bool false⟩
theorem pkb25_ok : pkb25.ok := Fact.by_run pkaAll_ok (n := 300) (by kernel_rfl) (by kernel_rfl)
noncomputable def pkb26 : Fact := ⟨109, [.int .u64 (9223372036854775677)], .bool false⟩
theorem pkb26_ok : pkb26.ok := Fact.by_run pkaAll_ok (n := 300) (by kernel_rfl) (by kernel_rfl)
noncomputable def pkb27 : Fact := ⟨109, [.int .u64 (9223372036854775673)], .bool false⟩
theorem pkb27_ok : pkb27.ok := Fact.by_run pkaAll_ok (n := 300) (by kernel_rfl) (by kernel_rfl)
noncomputable def pkb28 : Fact := ⟨109, [.int .u64 (9223372036854775669)], .bool false⟩
theorem pkb28_ok : pkb28.ok := Fact.by_run pkaAll_ok (n := 300) (by kernel_rfl) (by kernel_rfl)
noncomputable def pkb29 : Fact := ⟨109, [.int .u64 (9223372036854775665)], .bool false⟩
theorem pkb29_ok : pkb29.ok := Fact.by_run pkaAll_ok (n := 300) (by kernel_rfl) (by kernel_rfl)
noncomputable def pkb30 : Fact := ⟨109, [.int .u64 (9223372036854775661)], .bool false⟩
theorem pkb30_ok : pkb30.ok := Fact.by_run pkaAll_ok (n := 300) (by kernel_rfl) (by kernel_rfl)
noncomputable def pkb31 : Fact := ⟨109, [.int .u64 (9223372036854775657)], .bool false⟩
theorem pkb31_ok : pkb31.ok := Fact.by_run pkaAll_ok (n := 300) (by kernel_rfl) (by kernel_rfl)
noncomputable def pkb32 : Fact := ⟨109, [.int .u64 (9223372036854775653)], .bool false⟩
theorem pkb32_ok : pkb32.ok := Fact.by_run pkaAll_ok (n := 300) (by kernel_rfl) (by kernel_rfl)
noncomputable def pkb33 : Fact := ⟨109, [.int .u64 (9223372036854775649)], .bool false⟩
theorem pkb33_ok : pkb33.ok := Fact.by_run pkaAll_ok (n := 300) (by kernel_rfl) (by kernel_rfl)
noncomputable def pkb34 : Fact := ⟨109, [.int .u64 (9223372036854775645)], .bool false⟩
theorem pkb34_ok : pkb34.ok := Fact.by_run pkaAll_ok (n := 300) (by kernel_rfl) (by kernel_rfl)
end Ev
end Go.Proofs.YtmioikbnjflldaaGreatDoor
