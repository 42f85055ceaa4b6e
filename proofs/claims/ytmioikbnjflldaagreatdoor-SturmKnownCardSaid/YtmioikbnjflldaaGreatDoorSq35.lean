/- Contracts, in this order: Calls of structs with numbers, run, and their answers. -/
import Derived.Test.YtmioikbnjflldaaGreatDoorSq31
import Derived.Test.YtmioikbnjflldaaGreatDoorSq32
namespace Go.Proofs.YtmioikbnjflldaaGreatDoor
open Go Go.RowKit
namespace Ev
set_option maxRecDepth 100000
noncomputable def stn2 : NFact := ⟨178, [.one (.p (.int .i64 (64))), .agg [.p (.bool false), .n 1, .p (.int .u64 (0)), .p (.int .i64 (0))], .agg [.p (.bool false), .n 1, .p (.int .u64 (0)), .p (.int .i64 (0))]], .agg [.p (.bool false), .n 1, .p (.int .u64 (0)), .p (.int .i64 (0))]⟩
theorem stn2_ok : stn2.ok := NFact.by_run stl_ok (n := 300) (by kernel_rfl)
noncomputable def stn5 : NFact := ⟨179, [.one (.p (.int .i64 (64))), .one (.p (.bool false)), .one (.n 16)], .agg [.p (.bool false), .n 1, .p (.int .u64 (0)), .p (.int .i64 (4))]⟩
theorem stn5_ok : stn5.ok := NFact.by_run stl_ok (n := 300) (by kernel_rfl)
noncomputable def stn8 : NFact := ⟨178, [.one (.p (.int .i64 (64))), .agg [.p (.bool false), .n 0, .p (.int .u64 (0)), .p (.int .i64 (0))], .agg [.p (.bool false), .n 1, .p (.int .u64 (0)), .p (.int .i64 (4))]], .agg [.p (.bool false), .n 0, .p (.int .u64 (0)), .p (.int .i64 (4))]⟩
theorem stn8_ok : stn8.ok := NFact.by_run stl_ok (n := 300) (by kernel_rfl)
noncomputable def stn11 : NFact := ⟨178, [.one (.p (.int .i64 (64))), .agg [.p (.bool false), .n 0, .p (.int .u64 (0)), .p (.int .i64 (0))], .agg [.p (.bool false), .n 1, .p (.int .u64 (0)), .p (.int .i64 (0))]], .agg [.p (.bool false), .n 0, .p (.int .u64 (0)), .p (.int .i64 (0))]⟩
theorem stn11_ok : stn11.ok := NFact.by_run stl_ok (n := 300) (by kernel_rfl)
noncomputable def stn14 : NFact := ⟨178, [.one (.p (.int .i64 (64))), .agg [.p (.bool false), .n 1, .p (.int .u64 (0)), .p (.int .i64 (1))], .agg [.p (.bool false), .n 3, .p (.int .u64 (0)), .p (.int .i64 (1))]], .agg [.p (.bool false), .n 3, .p (.int .u64 (0)), .p (.int .i64 (2))]⟩
theorem stn14_ok : stn14.ok := NFact.by_run stl_ok (n := 300) (by kernel_rfl)
noncomputable def stn17 : NFact := ⟨173, [.one (.p (.int .i64 (64))), .agg [.p (.bool true), .n 1, .p (.int .u64 (0)), .p (.int .i64 (4))], .agg [.p (.bool false), .n 0, .p (.int .u64 (0)), .p (.int .i64 (4))]], .agg [.p (.bool true), .n 1, .p (.int .u64 (0)), .p (.int .i64 (4))]⟩
theorem stn17_ok : stn17.ok := NFact.by_run stl_ok (n := 300) (by kernel_rfl)
noncomputable def stn20 : NFact := ⟨178, [.one (.p (.int .i64 (64))), .agg [.p (.bool false), .n 1, .p (.int .u64 (0)), .p (.int .i64 (2))], .agg [.p (.bool false), .n 1, .p (.int .u64 (0)), .p (.int .i64 (2))]], .agg [.p (.bool false), .n 1, .p (.int .u64 (0)), .p (.int .i64 (4))]⟩
theorem stn20_ok : stn20.ok := NFact.by_run stl_ok (n := 300) (by kernel_rfl)
noncomputable def stn23 : NFact := ⟨178, [.one (.p (.int .i64 (64))), .agg [.p (.bool false), .n 1, .p (.int .u64 (0)), .p (.int .i64 (8))], .agg [.p (.bool false), .n 1, .p (.int .u64 (0)), .p (.int .i64 (1))]], .agg [.p (.bool false), .n 1, .p (.int .u64 (0)), .p (.int .i64 (9))]⟩
theorem stn23_ok : stn23.ok := NFact.by_run stl_ok (n := 300) (by kernel_rfl)
noncomputable def stn26 : NFact := ⟨178, [.one (.p (.int .i64 (64))), .agg [.p (.bool true), .n 1, .p (.int .u64 (0)), .p (.int .i64 (4))], .agg [.p (.bool false), .n 1, .p (.int .u64 (0)), .p (.int .i64 (1))]], .agg [.p (.bool true), .n 1, .p (.int .u64 (0)), .p (.int .i64 (5))]⟩
theorem stn26_ok : stn26.ok := NFact.by_run stl_ok (n := 300) (by kernel_rfl)
noncomputable def stn29 : NFact := ⟨173, [.one (.p (.int .i64 (64))), .agg [.p (.bool true), .n 3, .p (.int .u64 (0)), .p (.int .i64 (0))], .agg [.p (.bool false), .n 0, .p (.int .u64 (0)), .p (.int .i64 (0))]], .agg [.p (.bool true), .n 3, .p (.int .u64 (0)), .p (.int .i64 (0))]⟩
theorem stn29_ok : stn29.ok := NFact.by_run stl_ok (n := 300) (by kernel_rfl)
noncomputable def stn32 : NFact := ⟨178, [.one (.p (.int .i64 (64))), .agg [.p (.bool false), .n 1, .p (.int .u64 (0)), .p (.int .i64 (3))], .agg [.p (.bool false), .n 1, .p (.int .u64 (0)), .p (.int .i64 (3))]], .agg [.p (.bool false), .n 1, .p (.int .u64 (0)), .p (.int .i64 (6))]⟩
theorem stn32_ok : stn32.ok := NFact.by_run stl_ok (n := 300) (by kernel_rfl)
noncomputable def stn35 : NFact := ⟨178, [.one (.p (.int .i64 (64))), .agg [.p (.bool false), .n 1, .p (.int .u64 (0)), .p (.int .i64 (6))], .agg [.p (.bool false), .n 1, .p (.int .u64 (0)), .p (.int .i64 (1))]], .agg [.p (.bool false), .n 1, .p (.int .u64 (0)), .p (.int .i64 (7))]⟩
theorem stn35_ok : stn35.ok := NFact.by_run stl_ok (n := 300) (by kernel_rfl)
noncomputable def stn38 : NFact := ⟨178, [.one (.p (.int .i64 (64))), .agg [.p (.bool true), .n 1, .p (.int .u64 (0)), .p (.int .i64 (4))], .agg [.p (.bool false), .n 1, .p (.int .u64 (0)), .p (.int .i64 (0))]], .agg [.p (.bool true), .n 1, .p (.int .u64 (0)), .p (.int .i64 (4))]⟩
theorem stn38_ok : stn38.ok := NFact.by_run stl_ok (n := 300) (by kernel_rfl)
noncomputable def stn41 : NFact := ⟨178, [.one (.p (.int .i64 (64))), .agg [.p (.bool true), .n 1, .p (.int .u64 (0)), .p (.int .i64 (4))], .agg [.p (.bool false), .n 1, .p (.int .u64 (0)), .p (.int .i64 (2))]], .agg [.p (.bool true), .n 1, .p (.int .u64 (0)), .p (.int .i64 (6))]⟩
theorem stn41_ok : stn41.ok := NFact.by_run stl_ok (n := 300) (by kernel_rfl)
noncomputable def stn44 : NFact := ⟨173, [.one (.p (.int .i64 (64))), .agg [.p (.bool true), .n 1, .p (.int .u64 (0)), .p (.int .i64 (6))], .agg [.p (.bool false), .n 3, .p (.int .u64 (0)), .p (.int .i64 (1))]], .agg [.p (.bool true), .n 29, .p (.int .u64 (0)), .p (.int .i64 (1))]⟩
theorem stn44_ok : stn44.ok := NFact.by_run stl_ok (n := 300) (by kernel_rfl)
noncomputable def stn47 : NFact := ⟨178, [.one (.p (.int .i64 (64))), .agg [.p (.bool false), .n 1, .p (.int .u64 (0)), .p (.int .i64 (1))], .agg [.p (.bool false), .n 32, .p (.int .u64 (0)), .p (.int .i64 (1))]], .agg [.p (.bool false), .n 32, .p (.int .u64 (0)), .p (.int .i64 (2))]⟩
theorem stn47_ok : stn47.ok := NFact.by_run stl_ok (n := 300) (by kernel_rfl)
noncomputable def stn50 : NFact := ⟨178, [.one (.p (.int .i64 (64))), .agg [.p (.bool false), .n 1, .p (.int .u64 (0)), .p (.int .i64 (1))], .agg [.p (.bool false), .n 195, .p (.int .u64 (0)), .p (.int .i64 (1))]], .agg [.p (.bool false), .n 195, .p (.int .u64 (0)), .p (.int .i64 (2))]⟩
theorem stn50_ok : stn50.ok := NFact.by_run stl_ok (n := 300) (by kernel_rfl)
noncomputable def stn53 : NFact := ⟨173, [.one (.p (.int .i64 (64))), .agg [.p (.bool false), .n 3, .p (.int .u64 (0)), .p (.int .i64 (1))], .agg [.p (.bool true), .n 29, .p (.int .u64 (0)), .p (.int .i64 (1))]], .agg [.p (.bool true), .n 26, .p (.int .u64 (0)), .p (.int .i64 (1))]⟩
theorem stn53_ok : stn53.ok := NFact.by_run stl_ok (n := 300) (by kernel_rfl)
noncomputable def stn56 : NFact := ⟨173, [.one (.p (.int .i64 (64))), .agg [.p (.bool false), .n 3, .p (.int .u64 (0)), .p (.int .i64 (1))], .agg [.p (.bool false), .n 26, .p (.int .u64 (0)), .p (.int .i64 (0))]], .agg [.p (.bool false), .n 32, .p (.int .u64 (0)), .p (.int .i64 (0))]⟩
theorem stn56_ok : stn56.ok := NFact.by_run stl_ok (n := 300) (by kernel_rfl)
noncomputable def stn59 : NFact := ⟨178, [.one (.p (.int .i64 (64))), .agg [.p (.bool false), .n 1, .p (.int .u64 (0)), .p (.int .i64 (1))], .agg [.p (.bool false), .n 192, .p (.int .u64 (0)), .p (.int .i64 (-1))]], .agg [.p (.bool false), .n 192, .p (.int .u64 (0)), .p (.int .i64 (0))]⟩
theorem stn59_ok : stn59.ok := NFact.by_run stl_ok (n := 300) (by kernel_rfl)
noncomputable def stn62 : NFact := ⟨173, [.one (.p (.int .i64 (64))), .agg [.p (.bool false), .n 2497996593314835115, .p (.int .u64 (1)), .p (.int .i64 (-63))], .agg [.p (.bool true), .n 13835058055282163712, .p (.int .u64 (1)), .p (.int .i64 (-66))]], .agg [.p (.bool false), .n 768614336404564651, .p (.int .u64 (2)), .p (.int .i64 (-63))]⟩
theorem stn62_ok : stn62.ok := NFact.by_run stl_ok (n := 300) (by kernel_rfl)
noncomputable def stn65 : NFact := ⟨173, [.one (.p (.int .i64 (64))), .agg [.p (.bool true), .n 20, .p (.int .u64 (0)), .p (.int .i64 (-1))], .agg [.p (.bool false), .n 88, .p (.int .u64 (0)), .p (.int .i64 (-2))]], .agg [.p (.bool false), .n 48, .p (.int .u64 (0)), .p (.int .i64 (-2))]⟩
theorem stn65_ok : stn65.ok := NFact.by_run stl_ok (n := 300) (by kernel_rfl)
noncomputable def stn68 : NFact := ⟨173, [.one (.p (.int .i64 (64))), .agg [.p (.bool false), .n 48, .p (.int .u64 (0)), .p (.int .i64 (-3))], .agg [.p (.bool false), .n 20, .p (.int .u64 (0)), .p (.int .i64 (-1))]], .agg [.p (.bool false), .n 128, .p (.int .u64 (0)), .p (.int .i64 (-3))]⟩
theorem stn68_ok : stn68.ok := NFact.by_run stl_ok (n := 300) (by kernel_rfl)
noncomputable def stn71 : NFact := ⟨173, [.one (.p (.int .i64 (64))), .agg [.p (.bool false), .n 1, .p (.int .u64 (0)), .p (.int .i64 (0))], .agg [.p (.bool true), .n 13835058055282163712, .p (.int .u64 (1)), .p (.int .i64 (-65))]], .agg [.p (.bool false), .n 5764607523034234880, .p (.int .u64 (1)), .p (.int .i64 (-63))]⟩
theorem stn71_ok : stn71.ok := NFact.by_run stl_ok (n := 300) (by kernel_rfl)
noncomputable def stn74 : NFact := ⟨173, [.one (.p (.int .i64 (64))), .agg [.p (.bool true), .n 20, .p (.int .u64 (0)), .p (.int .i64 (-1))], .agg [.p (.bool false), .n 48, .p (.int .u64 (0)), .p (.int .i64 (-3))]], .agg [.p (.bool true), .n 32, .p (.int .u64 (0)), .p (.int .i64 (-3))]⟩
theorem stn74_ok : stn74.ok := NFact.by_run stl_ok (n := 300) (by kernel_rfl)
noncomputable def stn77 : NFact := ⟨178, [.one (.p (.int .i64 (64))), .agg [.p (.bool false), .n 1, .p (.int .u64 (0)), .p (.int .i64 (6))], .agg [.p (.bool false), .n 1, .p (.int .u64 (0)), .p (.int .i64 (0))]], .agg [.p (.bool false), .n 1, .p (.int .u64 (0)), .p (.int .i64 (6))]⟩
theorem stn77_ok : stn77.ok := NFact.by_run stl_ok (n := 300) (by kernel_rfl)
noncomputable def stn80 : NFact := ⟨173, [.one (.p (.int .i64 (64))), .agg [.p (.bool false), .n 9, .p (.int .u64 (0)), .p (.int .i64 (6))], .agg [.p (.bool false), .n 35, .p (.int .u64 (0)), .p (.int .i64 (1))]], .agg [.p (.bool false), .n 323, .p (.int .u64 (0)), .p (.int .i64 (1))]⟩
theorem stn80_ok : stn80.ok := NFact.by_run stl_ok (n := 300) (by kernel_rfl)
noncomputable def stn83 : NFact := ⟨178, [.one (.p (.int .i64 (64))), .agg [.p (.bool true), .n 3, .p (.int .u64 (0)), .p (.int .i64 (0))], .agg [.p (.bool false), .n 1, .p (.int .u64 (0)), .p (.int .i64 (3))]], .agg [.p (.bool true), .n 3, .p (.int .u64 (0)), .p (.int .i64 (3))]⟩
theorem stn83_ok : stn83.ok := NFact.by_run stl_ok (n := 300) (by kernel_rfl)
noncomputable def stn86 : NFact := ⟨173, [.one (.p (.int .i64 (64))), .agg [.p (.bool true), .n 3, .p (.int .u64 (0)), .p (.int .i64 (3))], .agg [.p (.bool false), .n 1, .p (.int .u64 (0)), .p (.int .i64 (2))]], .agg [.p (.bool true), .n 5, .p (.int .u64 (0)), .p (.int .i64 (2))]⟩
theorem stn86_ok : stn86.ok := NFact.by_run stl_ok (n := 300) (by kernel_rfl)
noncomputable def stn89 : NFact := ⟨178, [.one (.p (.int .i64 (64))), .agg [.p (.bool false), .n 1, .p (.int .u64 (0)), .p (.int .i64 (1))], .agg [.p (.bool false), .n 6, .p (.int .u64 (0)), .p (.int .i64 (2))]], .agg [.p (.bool false), .n 6, .p (.int .u64 (0)), .p (.int .i64 (3))]⟩
theorem stn89_ok : stn89.ok := NFact.by_run stl_ok (n := 300) (by kernel_rfl)
noncomputable def stn92 : NFact := ⟨178, [.one (.p (.int .i64 (64))), .agg [.p (.bool false), .n 1, .p (.int .u64 (0)), .p (.int .i64 (1))], .agg [.p (.bool false), .n 21, .p (.int .u64 (0)), .p (.int .i64 (2))]], .agg [.p (.bool false), .n 21, .p (.int .u64 (0)), .p (.int .i64 (3))]⟩
theorem stn92_ok : stn92.ok := NFact.by_run stl_ok (n := 300) (by kernel_rfl)
noncomputable def stn95 : NFact := ⟨173, [.one (.p (.int .i64 (64))), .agg [.p (.bool false), .n 1, .p (.int .u64 (0)), .p (.int .i64 (2))], .agg [.p (.bool true), .n 5, .p (.int .u64 (0)), .p (.int .i64 (2))]], .agg [.p (.bool true), .n 4, .p (.int .u64 (0)), .p (.int .i64 (2))]⟩
theorem stn95_ok : stn95.ok := NFact.by_run stl_ok (n := 300) (by kernel_rfl)
noncomputable def stn98 : NFact := ⟨173, [.one (.p (.int .i64 (64))), .agg [.p (.bool false), .n 1, .p (.int .u64 (0)), .p (.int .i64 (2))], .agg [.p (.bool false), .n 4, .p (.int .u64 (0)), .p (.int .i64 (1))]], .agg [.p (.bool false), .n 6, .p (.int .u64 (0)), .p (.int .i64 (1))]⟩
theorem stn98_ok : stn98.ok := NFact.by_run stl_ok (n := 300) (by kernel_rfl)
noncomputable def stn101 : NFact := ⟨178, [.one (.p (.int .i64 (64))), .agg [.p (.bool false), .n 1, .p (.int .u64 (0)), .p (.int .i64 (1))], .agg [.p (.bool false), .n 20, .p (.int .u64 (0)), .p (.int .i64 (0))]], .agg [.p (.bool false), .n 20, .p (.int .u64 (0)), .p (.int .i64 (1))]⟩
theorem stn101_ok : stn101.ok := NFact.by_run stl_ok (n := 300) (by kernel_rfl)
noncomputable def stn104 : NFact := ⟨173, [.one (.p (.int .i64 (64))), .agg [.p (.bool false), .n 3689348814741910324, .p (.int .u64 (2)), .p (.int .i64 (-63))], .agg [.p (.bool true), .n 12297829382473034410, .p (.int .u64 (2)), .p (.int .i64 (-65))]], .agg [.p (.bool false), .n 614891469123651722, .p (.int .u64 (4)), .p (.int .i64 (-63))]⟩
theorem stn104_ok : stn104.ok := NFact.by_run stl_ok (n := 300) (by kernel_rfl)
noncomputable def stn107 : NFact := ⟨173, [.one (.p (.int .i64 (64))), .agg [.p (.bool true), .n 2, .p (.int .u64 (0)), .p (.int .i64 (0))], .agg [.p (.bool false), .n 4, .p (.int .u64 (0)), .p (.int .i64 (-1))]], .agg [.p (.bool false), .n 0, .p (.int .u64 (0)), .p (.int .i64 (-1))]⟩
theorem stn107_ok : stn107.ok := NFact.by_run stl_ok (n := 300) (by kernel_rfl)
noncomputable def stn110 : NFact := ⟨178, [.one (.p (.int .i64 (64))), .agg [.p (.bool false), .n 3, .p (.int .u64 (0)), .p (.int .i64 (0))], .agg [.p (.bool false), .n 1, .p (.int .u64 (0)), .p (.int .i64 (3))]], .agg [.p (.bool false), .n 3, .p (.int .u64 (0)), .p (.int .i64 (3))]⟩
theorem stn110_ok : stn110.ok := NFact.by_run stl_ok (n := 300) (by kernel_rfl)
noncomputable def stn113 : NFact := ⟨173, [.one (.p (.int .i64 (64))), .agg [.p (.bool false), .n 3, .p (.int .u64 (0)), .p (.int .i64 (3))], .agg [.p (.bool false), .n 1, .p (.int .u64 (0)), .p (.int .i64 (2))]], .agg [.p (.bool false), .n 7, .p (.int .u64 (0)), .p (.int .i64 (2))]⟩
theorem stn113_ok : stn113.ok := NFact.by_run stl_ok (n := 300) (by kernel_rfl)
noncomputable def stn116 : NFact := ⟨178, [.one (.p (.int .i64 (64))), .agg [.p (.bool true), .n 2, .p (.int .u64 (0)), .p (.int .i64 (0))], .agg [.p (.bool false), .n 1, .p (.int .u64 (0)), .p (.int .i64 (0))]], .agg [.p (.bool true), .n 2, .p (.int .u64 (0)), .p (.int .i64 (0))]⟩
theorem stn116_ok : stn116.ok := NFact.by_run stl_ok (n := 300) (by kernel_rfl)
end Ev
end Go.Proofs.YtmioikbnjflldaaGreatDoor
