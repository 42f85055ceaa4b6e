/- Contracts, in this order: Calls of structs with numbers, run, and their answers. -/
import Derived.Test.YtmioikbnjflldaaGreatDoorSq31
import Derived.Test.YtmioikbnjflldaaGreatDoorSq32
namespace Go.Proofs.YtmioikbnjflldaaGreatDoor
open Go Go.RowKit
namespace Ev
set_option maxRecDepth 100000
noncomputable def stn0 : NFact := ⟨179, [.one (.p (.int .i64 (64))), .one (.p (.bool false)), .one (.n 2)], .agg [.p (.bool false), .n 1, .p (.int .u64 (0)), .p (.int .i64 (1))]⟩
theorem stn0_ok : stn0.ok := NFact.by_run stl_ok (n := 300) (by kernel_rfl)
noncomputable def stn3 : NFact := ⟨178, [.one (.p (.int .i64 (64))), .agg [.p (.bool false), .n 1, .p (.int .u64 (0)), .p (.int .i64 (1))], .agg [.p (.bool false), .n 1, .p (.int .u64 (0)), .p (.int .i64 (0))]], .agg [.p (.bool false), .n 1, .p (.int .u64 (0)), .p (.int .i64 (1))]⟩
theorem stn3_ok : stn3.ok := NFact.by_run stl_ok (n := 300) (by kernel_rfl)
noncomputable def stn6 : NFact := ⟨178, [.one (.p (.int .i64 (64))), .agg [.p (.bool false), .n 1, .p (.int .u64 (0)), .p (.int .i64 (4))], .agg [.p (.bool false), .n 1, .p (.int .u64 (0)), .p (.int .i64 (0))]], .agg [.p (.bool false), .n 1, .p (.int .u64 (0)), .p (.int .i64 (4))]⟩
theorem stn6_ok : stn6.ok := NFact.by_run stl_ok (n := 300) (by kernel_rfl)
noncomputable def stn9 : NFact := ⟨179, [.one (.p (.int .i64 (64))), .one (.p (.bool false)), .one (.n 0)], .agg [.p (.bool false), .n 0, .p (.int .u64 (0)), .p (.int .i64 (0))]⟩
theorem stn9_ok : stn9.ok := NFact.by_run stl_ok (n := 300) (by kernel_rfl)
noncomputable def stn12 : NFact := ⟨179, [.one (.p (.int .i64 (64))), .one (.p (.bool true)), .one (.n 16)], .agg [.p (.bool true), .n 1, .p (.int .u64 (0)), .p (.int .i64 (4))]⟩
theorem stn12_ok : stn12.ok := NFact.by_run stl_ok (n := 300) (by kernel_rfl)
noncomputable def stn15 : NFact := ⟨179, [.one (.p (.int .i64 (64))), .one (.p (.bool true)), .one (.n 3)], .agg [.p (.bool true), .n 3, .p (.int .u64 (0)), .p (.int .i64 (0))]⟩
theorem stn15_ok : stn15.ok := NFact.by_run stl_ok (n := 300) (by kernel_rfl)
noncomputable def stn18 : NFact := ⟨179, [.one (.p (.int .i64 (64))), .one (.p (.bool false)), .one (.n 4)], .agg [.p (.bool false), .n 1, .p (.int .u64 (0)), .p (.int .i64 (2))]⟩
theorem stn18_ok : stn18.ok := NFact.by_run stl_ok (n := 300) (by kernel_rfl)
noncomputable def stn21 : NFact := ⟨178, [.one (.p (.int .i64 (64))), .agg [.p (.bool false), .n 1, .p (.int .u64 (0)), .p (.int .i64 (4))], .agg [.p (.bool false), .n 1, .p (.int .u64 (0)), .p (.int .i64 (4))]], .agg [.p (.bool false), .n 1, .p (.int .u64 (0)), .p (.int .i64 (8))]⟩
theorem stn21_ok : stn21.ok := NFact.by_run stl_ok (n := 300) (by kernel_rfl)
noncomputable def stn24 : NFact := ⟨173, [.one (.p (.int .i64 (64))), .agg [.p (.bool false), .n 1, .p (.int .u64 (0)), .p (.int .i64 (4))], .agg [.p (.bool false), .n 0, .p (.int .u64 (0)), .p (.int .i64 (4))]], .agg [.p (.bool false), .n 1, .p (.int .u64 (0)), .p (.int .i64 (4))]⟩
theorem stn24_ok : stn24.ok := NFact.by_run stl_ok (n := 300) (by kernel_rfl)
noncomputable def stn27 : NFact := ⟨178, [.one (.p (.int .i64 (64))), .agg [.p (.bool false), .n 3, .p (.int .u64 (0)), .p (.int .i64 (0))], .agg [.p (.bool false), .n 1, .p (.int .u64 (0)), .p (.int .i64 (2))]], .agg [.p (.bool false), .n 3, .p (.int .u64 (0)), .p (.int .i64 (2))]⟩
theorem stn27_ok : stn27.ok := NFact.by_run stl_ok (n := 300) (by kernel_rfl)
noncomputable def stn30 : NFact := ⟨179, [.one (.p (.int .i64 (64))), .one (.p (.bool false)), .one (.n 8)], .agg [.p (.bool false), .n 1, .p (.int .u64 (0)), .p (.int .i64 (3))]⟩
theorem stn30_ok : stn30.ok := NFact.by_run stl_ok (n := 300) (by kernel_rfl)
noncomputable def stn33 : NFact := ⟨178, [.one (.p (.int .i64 (64))), .agg [.p (.bool false), .n 1, .p (.int .u64 (0)), .p (.int .i64 (0))], .agg [.p (.bool false), .n 1, .p (.int .u64 (0)), .p (.int .i64 (6))]], .agg [.p (.bool false), .n 1, .p (.int .u64 (0)), .p (.int .i64 (6))]⟩
theorem stn33_ok : stn33.ok := NFact.by_run stl_ok (n := 300) (by kernel_rfl)
noncomputable def stn36 : NFact := ⟨178, [.one (.p (.int .i64 (64))), .agg [.p (.bool false), .n 1, .p (.int .u64 (0)), .p (.int .i64 (1))], .agg [.p (.bool false), .n 1, .p (.int .u64 (0)), .p (.int .i64 (2))]], .agg [.p (.bool false), .n 1, .p (.int .u64 (0)), .p (.int .i64 (3))]⟩
theorem stn36_ok : stn36.ok := NFact.by_run stl_ok (n := 300) (by kernel_rfl)
noncomputable def stn39 : NFact := ⟨178, [.one (.p (.int .i64 (64))), .agg [.p (.bool false), .n 0, .p (.int .u64 (0)), .p (.int .i64 (0))], .agg [.p (.bool true), .n 1, .p (.int .u64 (0)), .p (.int .i64 (4))]], .agg [.p (.bool true), .n 0, .p (.int .u64 (0)), .p (.int .i64 (4))]⟩
theorem stn39_ok : stn39.ok := NFact.by_run stl_ok (n := 300) (by kernel_rfl)
noncomputable def stn42 : NFact := ⟨178, [.one (.p (.int .i64 (64))), .agg [.p (.bool true), .n 1, .p (.int .u64 (0)), .p (.int .i64 (6))], .agg [.p (.bool false), .n 1, .p (.int .u64 (0)), .p (.int .i64 (0))]], .agg [.p (.bool true), .n 1, .p (.int .u64 (0)), .p (.int .i64 (6))]⟩
theorem stn42_ok : stn42.ok := NFact.by_run stl_ok (n := 300) (by kernel_rfl)
noncomputable def stn45 : NFact := ⟨173, [.one (.p (.int .i64 (64))), .agg [.p (.bool false), .n 7, .p (.int .u64 (0)), .p (.int .i64 (6))], .agg [.p (.bool true), .n 29, .p (.int .u64 (0)), .p (.int .i64 (1))]], .agg [.p (.bool false), .n 195, .p (.int .u64 (0)), .p (.int .i64 (1))]⟩
theorem stn45_ok : stn45.ok := NFact.by_run stl_ok (n := 300) (by kernel_rfl)
noncomputable def stn48 : NFact := ⟨173, [.one (.p (.int .i64 (64))), .agg [.p (.bool false), .n 195, .p (.int .u64 (0)), .p (.int .i64 (1))], .agg [.p (.bool false), .n 29, .p (.int .u64 (0)), .p (.int .i64 (1))]], .agg [.p (.bool false), .n 224, .p (.int .u64 (0)), .p (.int .i64 (1))]⟩
theorem stn48_ok : stn48.ok := NFact.by_run stl_ok (n := 300) (by kernel_rfl)
noncomputable def stn51 : NFact := ⟨173, [.one (.p (.int .i64 (64))), .agg [.p (.bool false), .n 1, .p (.int .u64 (0)), .p (.int .i64 (0))], .agg [.p (.bool true), .n 16058549528452511451, .p (.int .u64 (1)), .p (.int .i64 (-64))]], .agg [.p (.bool false), .n 1194097272628520083, .p (.int .u64 (2)), .p (.int .i64 (-63))]⟩
theorem stn51_ok : stn51.ok := NFact.by_run stl_ok (n := 300) (by kernel_rfl)
noncomputable def stn54 : NFact := ⟨173, [.one (.p (.int .i64 (64))), .agg [.p (.bool true), .n 29, .p (.int .u64 (0)), .p (.int .i64 (1))], .agg [.p (.bool false), .n 195, .p (.int .u64 (0)), .p (.int .i64 (1))]], .agg [.p (.bool false), .n 166, .p (.int .u64 (0)), .p (.int .i64 (1))]⟩
theorem stn54_ok : stn54.ok := NFact.by_run stl_ok (n := 300) (by kernel_rfl)
noncomputable def stn57 : NFact := ⟨178, [.one (.p (.int .i64 (64))), .agg [.p (.bool false), .n 1, .p (.int .u64 (0)), .p (.int .i64 (1))], .agg [.p (.bool false), .n 32, .p (.int .u64 (0)), .p (.int .i64 (0))]], .agg [.p (.bool false), .n 32, .p (.int .u64 (0)), .p (.int .i64 (1))]⟩
theorem stn57_ok : stn57.ok := NFact.by_run stl_ok (n := 300) (by kernel_rfl)
noncomputable def stn60 : NFact := ⟨178, [.one (.p (.int .i64 (64))), .agg [.p (.bool false), .n 1, .p (.int .u64 (0)), .p (.int .i64 (1))], .agg [.p (.bool false), .n 140, .p (.int .u64 (0)), .p (.int .i64 (-1))]], .agg [.p (.bool false), .n 140, .p (.int .u64 (0)), .p (.int .i64 (0))]⟩
theorem stn60_ok : stn60.ok := NFact.by_run stl_ok (n := 300) (by kernel_rfl)
noncomputable def stn63 : NFact := ⟨173, [.one (.p (.int .i64 (64))), .agg [.p (.bool false), .n 3, .p (.int .u64 (0)), .p (.int .i64 (1))], .agg [.p (.bool true), .n 26, .p (.int .u64 (0)), .p (.int .i64 (0))]], .agg [.p (.bool true), .n 20, .p (.int .u64 (0)), .p (.int .i64 (0))]⟩
theorem stn63_ok : stn63.ok := NFact.by_run stl_ok (n := 300) (by kernel_rfl)
noncomputable def stn66 : NFact := ⟨173, [.one (.p (.int .i64 (64))), .agg [.p (.bool false), .n 3, .p (.int .u64 (0)), .p (.int .i64 (1))], .agg [.p (.bool false), .n 20, .p (.int .u64 (0)), .p (.int .i64 (-1))]], .agg [.p (.bool false), .n 32, .p (.int .u64 (0)), .p (.int .i64 (-1))]⟩
theorem stn66_ok : stn66.ok := NFact.by_run stl_ok (n := 300) (by kernel_rfl)
noncomputable def stn69 : NFact := ⟨178, [.one (.p (.int .i64 (64))), .agg [.p (.bool false), .n 1, .p (.int .u64 (0)), .p (.int .i64 (1))], .agg [.p (.bool false), .n 128, .p (.int .u64 (0)), .p (.int .i64 (-3))]], .agg [.p (.bool false), .n 128, .p (.int .u64 (0)), .p (.int .i64 (-2))]⟩
theorem stn69_ok : stn69.ok := NFact.by_run stl_ok (n := 300) (by kernel_rfl)
noncomputable def stn72 : NFact := ⟨173, [.one (.p (.int .i64 (64))), .agg [.p (.bool false), .n 5764607523034234880, .p (.int .u64 (1)), .p (.int .i64 (-63))], .agg [.p (.bool true), .n 13835058055282163712, .p (.int .u64 (1)), .p (.int .i64 (-65))]], .agg [.p (.bool false), .n 2305843009213693952, .p (.int .u64 (2)), .p (.int .i64 (-63))]⟩
theorem stn72_ok : stn72.ok := NFact.by_run stl_ok (n := 300) (by kernel_rfl)
noncomputable def stn75 : NFact := ⟨173, [.one (.p (.int .i64 (64))), .agg [.p (.bool true), .n 8, .p (.int .u64 (0)), .p (.int .i64 (-2))], .agg [.p (.bool true), .n 32, .p (.int .u64 (0)), .p (.int .i64 (-4))]], .agg [.p (.bool true), .n 64, .p (.int .u64 (0)), .p (.int .i64 (-4))]⟩
theorem stn75_ok : stn75.ok := NFact.by_run stl_ok (n := 300) (by kernel_rfl)
noncomputable def stn78 : NFact := ⟨173, [.one (.p (.int .i64 (64))), .agg [.p (.bool false), .n 1, .p (.int .u64 (0)), .p (.int .i64 (9))], .agg [.p (.bool false), .n 1, .p (.int .u64 (0)), .p (.int .i64 (6))]], .agg [.p (.bool false), .n 9, .p (.int .u64 (0)), .p (.int .i64 (6))]⟩
theorem stn78_ok : stn78.ok := NFact.by_run stl_ok (n := 300) (by kernel_rfl)
noncomputable def stn81 : NFact := ⟨178, [.one (.p (.int .i64 (64))), .agg [.p (.bool false), .n 0, .p (.int .u64 (0)), .p (.int .i64 (0))], .agg [.p (.bool true), .n 3, .p (.int .u64 (0)), .p (.int .i64 (0))]], .agg [.p (.bool true), .n 0, .p (.int .u64 (0)), .p (.int .i64 (0))]⟩
theorem stn81_ok : stn81.ok := NFact.by_run stl_ok (n := 300) (by kernel_rfl)
noncomputable def stn84 : NFact := ⟨178, [.one (.p (.int .i64 (64))), .agg [.p (.bool true), .n 3, .p (.int .u64 (0)), .p (.int .i64 (3))], .agg [.p (.bool false), .n 1, .p (.int .u64 (0)), .p (.int .i64 (0))]], .agg [.p (.bool true), .n 3, .p (.int .u64 (0)), .p (.int .i64 (3))]⟩
theorem stn84_ok : stn84.ok := NFact.by_run stl_ok (n := 300) (by kernel_rfl)
noncomputable def stn87 : NFact := ⟨173, [.one (.p (.int .i64 (64))), .agg [.p (.bool false), .n 13, .p (.int .u64 (0)), .p (.int .i64 (3))], .agg [.p (.bool true), .n 5, .p (.int .u64 (0)), .p (.int .i64 (2))]], .agg [.p (.bool false), .n 21, .p (.int .u64 (0)), .p (.int .i64 (2))]⟩
theorem stn87_ok : stn87.ok := NFact.by_run stl_ok (n := 300) (by kernel_rfl)
noncomputable def stn90 : NFact := ⟨173, [.one (.p (.int .i64 (64))), .agg [.p (.bool false), .n 21, .p (.int .u64 (0)), .p (.int .i64 (2))], .agg [.p (.bool false), .n 5, .p (.int .u64 (0)), .p (.int .i64 (2))]], .agg [.p (.bool false), .n 26, .p (.int .u64 (0)), .p (.int .i64 (2))]⟩
theorem stn90_ok : stn90.ok := NFact.by_run stl_ok (n := 300) (by kernel_rfl)
noncomputable def stn93 : NFact := ⟨173, [.one (.p (.int .i64 (64))), .agg [.p (.bool false), .n 1, .p (.int .u64 (0)), .p (.int .i64 (0))], .agg [.p (.bool true), .n 14899293290303868612, .p (.int .u64 (2)), .p (.int .i64 (-64))]], .agg [.p (.bool false), .n 1773725391702841502, .p (.int .u64 (1)), .p (.int .i64 (-63))]⟩
theorem stn93_ok : stn93.ok := NFact.by_run stl_ok (n := 300) (by kernel_rfl)
noncomputable def stn96 : NFact := ⟨173, [.one (.p (.int .i64 (64))), .agg [.p (.bool true), .n 5, .p (.int .u64 (0)), .p (.int .i64 (2))], .agg [.p (.bool false), .n 21, .p (.int .u64 (0)), .p (.int .i64 (2))]], .agg [.p (.bool false), .n 16, .p (.int .u64 (0)), .p (.int .i64 (2))]⟩
theorem stn96_ok : stn96.ok := NFact.by_run stl_ok (n := 300) (by kernel_rfl)
noncomputable def stn99 : NFact := ⟨178, [.one (.p (.int .i64 (64))), .agg [.p (.bool false), .n 1, .p (.int .u64 (0)), .p (.int .i64 (1))], .agg [.p (.bool false), .n 6, .p (.int .u64 (0)), .p (.int .i64 (1))]], .agg [.p (.bool false), .n 6, .p (.int .u64 (0)), .p (.int .i64 (2))]⟩
theorem stn99_ok : stn99.ok := NFact.by_run stl_ok (n := 300) (by kernel_rfl)
noncomputable def stn102 : NFact := ⟨178, [.one (.p (.int .i64 (64))), .agg [.p (.bool false), .n 1, .p (.int .u64 (0)), .p (.int .i64 (1))], .agg [.p (.bool false), .n 12, .p (.int .u64 (0)), .p (.int .i64 (0))]], .agg [.p (.bool false), .n 12, .p (.int .u64 (0)), .p (.int .i64 (1))]⟩
theorem stn102_ok : stn102.ok := NFact.by_run stl_ok (n := 300) (by kernel_rfl)
noncomputable def stn105 : NFact := ⟨173, [.one (.p (.int .i64 (64))), .agg [.p (.bool false), .n 1, .p (.int .u64 (0)), .p (.int .i64 (2))], .agg [.p (.bool true), .n 4, .p (.int .u64 (0)), .p (.int .i64 (1))]], .agg [.p (.bool true), .n 2, .p (.int .u64 (0)), .p (.int .i64 (1))]⟩
theorem stn105_ok : stn105.ok := NFact.by_run stl_ok (n := 300) (by kernel_rfl)
noncomputable def stn108 : NFact := ⟨178, [.one (.p (.int .i64 (64))), .agg [.p (.bool false), .n 0, .p (.int .u64 (0)), .p (.int .i64 (0))], .agg [.p (.bool false), .n 3, .p (.int .u64 (0)), .p (.int .i64 (0))]], .agg [.p (.bool false), .n 0, .p (.int .u64 (0)), .p (.int .i64 (0))]⟩
theorem stn108_ok : stn108.ok := NFact.by_run stl_ok (n := 300) (by kernel_rfl)
noncomputable def stn111 : NFact := ⟨178, [.one (.p (.int .i64 (64))), .agg [.p (.bool false), .n 3, .p (.int .u64 (0)), .p (.int .i64 (3))], .agg [.p (.bool false), .n 1, .p (.int .u64 (0)), .p (.int .i64 (0))]], .agg [.p (.bool false), .n 3, .p (.int .u64 (0)), .p (.int .i64 (3))]⟩
theorem stn111_ok : stn111.ok := NFact.by_run stl_ok (n := 300) (by kernel_rfl)
noncomputable def stn114 : NFact := ⟨173, [.one (.p (.int .i64 (64))), .agg [.p (.bool false), .n 19, .p (.int .u64 (0)), .p (.int .i64 (3))], .agg [.p (.bool false), .n 7, .p (.int .u64 (0)), .p (.int .i64 (2))]], .agg [.p (.bool false), .n 45, .p (.int .u64 (0)), .p (.int .i64 (2))]⟩
theorem stn114_ok : stn114.ok := NFact.by_run stl_ok (n := 300) (by kernel_rfl)
noncomputable def stn117 : NFact := ⟨173, [.one (.p (.int .i64 (64))), .agg [.p (.bool true), .n 2, .p (.int .u64 (0)), .p (.int .i64 (0))], .agg [.p (.bool false), .n 1, .p (.int .u64 (0)), .p (.int .i64 (1))]], .agg [.p (.bool false), .n 0, .p (.int .u64 (0)), .p (.int .i64 (0))]⟩
theorem stn117_ok : stn117.ok := NFact.by_run stl_ok (n := 300) (by kernel_rfl)
end Ev
end Go.Proofs.YtmioikbnjflldaaGreatDoor
