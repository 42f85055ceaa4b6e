/- Contracts, in this order: Calls of structs with numbers, run, and their answers. -/
import Derived.Test.YtmioikbnjflldaaGreatDoorSq31
import Derived.Test.YtmioikbnjflldaaGreatDoorSq32
namespace Go.Proofs.YtmioikbnjflldaaGreatDoor
open Go Go.RowKit
namespace Ev
set_option maxRecDepth 100000
noncomputable def stn1 : NFact := ⟨179, [.one (.p (.int .i64 (64))), .one (.p (.bool false)), .one (.n 1)], .agg [.p (.bool false), .n 1, .p (.int .u64 (0)), .p (.int .i64 (0))]⟩
theorem stn1_ok : stn1.ok := NFact.by_run stl_ok (n := 300) (by kernel_rfl)
noncomputable def stn4 : NFact := ⟨179, [.one (.p (.int .i64 (64))), .one (.p (.bool false)), .one (.n 3)], .agg [.p (.bool false), .n 3, .p (.int .u64 (0)), .p (.int .i64 (0))]⟩
theorem stn4_ok : stn4.ok := NFact.by_run stl_ok (n := 300) (by kernel_rfl)
noncomputable def stn7 : NFact := ⟨178, [.one (.p (.int .i64 (64))), .agg [.p (.bool false), .n 3, .p (.int .u64 (0)), .p (.int .i64 (0))], .agg [.p (.bool false), .n 1, .p (.int .u64 (0)), .p (.int .i64 (0))]], .agg [.p (.bool false), .n 3, .p (.int .u64 (0)), .p (.int .i64 (0))]⟩
theorem stn7_ok : stn7.ok := NFact.by_run stl_ok (n := 300) (by kernel_rfl)
noncomputable def stn10 : NFact := ⟨178, [.one (.p (.int .i64 (64))), .agg [.p (.bool false), .n 1, .p (.int .u64 (0)), .p (.int .i64 (1))], .agg [.p (.bool false), .n 1, .p (.int .u64 (0)), .p (.int .i64 (1))]], .agg [.p (.bool false), .n 1, .p (.int .u64 (0)), .p (.int .i64 (2))]⟩
theorem stn10_ok : stn10.ok := NFact.by_run stl_ok (n := 300) (by kernel_rfl)
noncomputable def stn13 : NFact := ⟨178, [.one (.p (.int .i64 (64))), .agg [.p (.bool false), .n 1, .p (.int .u64 (0)), .p (.int .i64 (4))], .agg [.p (.bool false), .n 1, .p (.int .u64 (0)), .p (.int .i64 (2))]], .agg [.p (.bool false), .n 1, .p (.int .u64 (0)), .p (.int .i64 (6))]⟩
theorem stn13_ok : stn13.ok := NFact.by_run stl_ok (n := 300) (by kernel_rfl)
noncomputable def stn16 : NFact := ⟨178, [.one (.p (.int .i64 (64))), .agg [.p (.bool true), .n 3, .p (.int .u64 (0)), .p (.int .i64 (0))], .agg [.p (.bool false), .n 1, .p (.int .u64 (0)), .p (.int .i64 (0))]], .agg [.p (.bool true), .n 3, .p (.int .u64 (0)), .p (.int .i64 (0))]⟩
theorem stn16_ok : stn16.ok := NFact.by_run stl_ok (n := 300) (by kernel_rfl)
noncomputable def stn19 : NFact := ⟨178, [.one (.p (.int .i64 (64))), .agg [.p (.bool false), .n 1, .p (.int .u64 (0)), .p (.int .i64 (0))], .agg [.p (.bool false), .n 1, .p (.int .u64 (0)), .p (.int .i64 (2))]], .agg [.p (.bool false), .n 1, .p (.int .u64 (0)), .p (.int .i64 (2))]⟩
theorem stn19_ok : stn19.ok := NFact.by_run stl_ok (n := 300) (by kernel_rfl)
noncomputable def stn22 : NFact := ⟨178, [.one (.p (.int .i64 (64))), .agg [.p (.bool false), .n 3, .p (.int .u64 (0)), .p (.int .i64 (0))], .agg [.p (.bool false), .n 1, .p (.int .u64 (0)), .p (.int .i64 (1))]], .agg [.p (.bool false), .n 3, .p (.int .u64 (0)), .p (.int .i64 (1))]⟩
theorem stn22_ok : stn22.ok := NFact.by_run stl_ok (n := 300) (by kernel_rfl)
noncomputable def stn25 : NFact := ⟨178, [.one (.p (.int .i64 (64))), .agg [.p (.bool false), .n 1, .p (.int .u64 (0)), .p (.int .i64 (0))], .agg [.p (.bool false), .n 1, .p (.int .u64 (0)), .p (.int .i64 (1))]], .agg [.p (.bool false), .n 1, .p (.int .u64 (0)), .p (.int .i64 (1))]⟩
theorem stn25_ok : stn25.ok := NFact.by_run stl_ok (n := 300) (by kernel_rfl)
noncomputable def stn28 : NFact := ⟨178, [.one (.p (.int .i64 (64))), .agg [.p (.bool false), .n 1, .p (.int .u64 (0)), .p (.int .i64 (2))], .agg [.p (.bool false), .n 1, .p (.int .u64 (0)), .p (.int .i64 (1))]], .agg [.p (.bool false), .n 1, .p (.int .u64 (0)), .p (.int .i64 (3))]⟩
theorem stn28_ok : stn28.ok := NFact.by_run stl_ok (n := 300) (by kernel_rfl)
noncomputable def stn31 : NFact := ⟨178, [.one (.p (.int .i64 (64))), .agg [.p (.bool false), .n 1, .p (.int .u64 (0)), .p (.int .i64 (0))], .agg [.p (.bool false), .n 1, .p (.int .u64 (0)), .p (.int .i64 (3))]], .agg [.p (.bool false), .n 1, .p (.int .u64 (0)), .p (.int .i64 (3))]⟩
theorem stn31_ok : stn31.ok := NFact.by_run stl_ok (n := 300) (by kernel_rfl)
noncomputable def stn34 : NFact := ⟨178, [.one (.p (.int .i64 (64))), .agg [.p (.bool false), .n 1, .p (.int .u64 (0)), .p (.int .i64 (6))], .agg [.p (.bool false), .n 1, .p (.int .u64 (0)), .p (.int .i64 (3))]], .agg [.p (.bool false), .n 1, .p (.int .u64 (0)), .p (.int .i64 (9))]⟩
theorem stn34_ok : stn34.ok := NFact.by_run stl_ok (n := 300) (by kernel_rfl)
noncomputable def stn37 : NFact := ⟨173, [.one (.p (.int .i64 (64))), .agg [.p (.bool false), .n 3, .p (.int .u64 (0)), .p (.int .i64 (0))], .agg [.p (.bool false), .n 0, .p (.int .u64 (0)), .p (.int .i64 (0))]], .agg [.p (.bool false), .n 3, .p (.int .u64 (0)), .p (.int .i64 (0))]⟩
theorem stn37_ok : stn37.ok := NFact.by_run stl_ok (n := 300) (by kernel_rfl)
noncomputable def stn40 : NFact := ⟨173, [.one (.p (.int .i64 (64))), .agg [.p (.bool false), .n 3, .p (.int .u64 (0)), .p (.int .i64 (0))], .agg [.p (.bool true), .n 0, .p (.int .u64 (0)), .p (.int .i64 (4))]], .agg [.p (.bool false), .n 3, .p (.int .u64 (0)), .p (.int .i64 (0))]⟩
theorem stn40_ok : stn40.ok := NFact.by_run stl_ok (n := 300) (by kernel_rfl)
noncomputable def stn43 : NFact := ⟨173, [.one (.p (.int .i64 (64))), .agg [.p (.bool false), .n 1, .p (.int .u64 (0)), .p (.int .i64 (9))], .agg [.p (.bool true), .n 1, .p (.int .u64 (0)), .p (.int .i64 (6))]], .agg [.p (.bool false), .n 7, .p (.int .u64 (0)), .p (.int .i64 (6))]⟩
theorem stn43_ok : stn43.ok := NFact.by_run stl_ok (n := 300) (by kernel_rfl)
noncomputable def stn46 : NFact := ⟨173, [.one (.p (.int .i64 (64))), .agg [.p (.bool false), .n 3, .p (.int .u64 (0)), .p (.int .i64 (1))], .agg [.p (.bool false), .n 29, .p (.int .u64 (0)), .p (.int .i64 (1))]], .agg [.p (.bool false), .n 32, .p (.int .u64 (0)), .p (.int .i64 (1))]⟩
theorem stn46_ok : stn46.ok := NFact.by_run stl_ok (n := 300) (by kernel_rfl)
noncomputable def stn49 : NFact := ⟨178, [.one (.p (.int .i64 (64))), .agg [.p (.bool false), .n 1, .p (.int .u64 (0)), .p (.int .i64 (1))], .agg [.p (.bool false), .n 224, .p (.int .u64 (0)), .p (.int .i64 (1))]], .agg [.p (.bool false), .n 224, .p (.int .u64 (0)), .p (.int .i64 (2))]⟩
theorem stn49_ok : stn49.ok := NFact.by_run stl_ok (n := 300) (by kernel_rfl)
noncomputable def stn52 : NFact := ⟨173, [.one (.p (.int .i64 (64))), .agg [.p (.bool false), .n 1194097272628520083, .p (.int .u64 (2)), .p (.int .i64 (-63))], .agg [.p (.bool true), .n 13835058055282163712, .p (.int .u64 (1)), .p (.int .i64 (-67))]], .agg [.p (.bool false), .n 329406144173384851, .p (.int .u64 (3)), .p (.int .i64 (-63))]⟩
theorem stn52_ok : stn52.ok := NFact.by_run stl_ok (n := 300) (by kernel_rfl)
noncomputable def stn55 : NFact := ⟨173, [.one (.p (.int .i64 (64))), .agg [.p (.bool true), .n 26, .p (.int .u64 (0)), .p (.int .i64 (0))], .agg [.p (.bool false), .n 166, .p (.int .u64 (0)), .p (.int .i64 (0))]], .agg [.p (.bool false), .n 140, .p (.int .u64 (0)), .p (.int .i64 (0))]⟩
theorem stn55_ok : stn55.ok := NFact.by_run stl_ok (n := 300) (by kernel_rfl)
noncomputable def stn58 : NFact := ⟨173, [.one (.p (.int .i64 (64))), .agg [.p (.bool false), .n 140, .p (.int .u64 (0)), .p (.int .i64 (-1))], .agg [.p (.bool false), .n 26, .p (.int .u64 (0)), .p (.int .i64 (0))]], .agg [.p (.bool false), .n 192, .p (.int .u64 (0)), .p (.int .i64 (-1))]⟩
theorem stn58_ok : stn58.ok := NFact.by_run stl_ok (n := 300) (by kernel_rfl)
noncomputable def stn61 : NFact := ⟨173, [.one (.p (.int .i64 (64))), .agg [.p (.bool false), .n 1, .p (.int .u64 (0)), .p (.int .i64 (0))], .agg [.p (.bool true), .n 13450750887079881386, .p (.int .u64 (2)), .p (.int .i64 (-64))]], .agg [.p (.bool false), .n 2497996593314835115, .p (.int .u64 (1)), .p (.int .i64 (-63))]⟩
theorem stn61_ok : stn61.ok := NFact.by_run stl_ok (n := 300) (by kernel_rfl)
noncomputable def stn64 : NFact := ⟨173, [.one (.p (.int .i64 (64))), .agg [.p (.bool true), .n 26, .p (.int .u64 (0)), .p (.int .i64 (0))], .agg [.p (.bool false), .n 140, .p (.int .u64 (0)), .p (.int .i64 (-1))]], .agg [.p (.bool false), .n 88, .p (.int .u64 (0)), .p (.int .i64 (-1))]⟩
theorem stn64_ok : stn64.ok := NFact.by_run stl_ok (n := 300) (by kernel_rfl)
noncomputable def stn67 : NFact := ⟨178, [.one (.p (.int .i64 (64))), .agg [.p (.bool false), .n 1, .p (.int .u64 (0)), .p (.int .i64 (1))], .agg [.p (.bool false), .n 32, .p (.int .u64 (0)), .p (.int .i64 (-1))]], .agg [.p (.bool false), .n 32, .p (.int .u64 (0)), .p (.int .i64 (0))]⟩
theorem stn67_ok : stn67.ok := NFact.by_run stl_ok (n := 300) (by kernel_rfl)
noncomputable def stn70 : NFact := ⟨178, [.one (.p (.int .i64 (64))), .agg [.p (.bool false), .n 1, .p (.int .u64 (0)), .p (.int .i64 (1))], .agg [.p (.bool false), .n 48, .p (.int .u64 (0)), .p (.int .i64 (-3))]], .agg [.p (.bool false), .n 48, .p (.int .u64 (0)), .p (.int .i64 (-2))]⟩
theorem stn70_ok : stn70.ok := NFact.by_run stl_ok (n := 300) (by kernel_rfl)
noncomputable def stn73 : NFact := ⟨173, [.one (.p (.int .i64 (64))), .agg [.p (.bool false), .n 3, .p (.int .u64 (0)), .p (.int .i64 (1))], .agg [.p (.bool true), .n 20, .p (.int .u64 (0)), .p (.int .i64 (-1))]], .agg [.p (.bool true), .n 8, .p (.int .u64 (0)), .p (.int .i64 (-1))]⟩
theorem stn73_ok : stn73.ok := NFact.by_run stl_ok (n := 300) (by kernel_rfl)
noncomputable def stn76 : NFact := ⟨173, [.one (.p (.int .i64 (64))), .agg [.p (.bool false), .n 3, .p (.int .u64 (0)), .p (.int .i64 (0))], .agg [.p (.bool false), .n 0, .p (.int .u64 (0)), .p (.int .i64 (4))]], .agg [.p (.bool false), .n 3, .p (.int .u64 (0)), .p (.int .i64 (0))]⟩
theorem stn76_ok : stn76.ok := NFact.by_run stl_ok (n := 300) (by kernel_rfl)
noncomputable def stn79 : NFact := ⟨173, [.one (.p (.int .i64 (64))), .agg [.p (.bool false), .n 1, .p (.int .u64 (0)), .p (.int .i64 (6))], .agg [.p (.bool false), .n 3, .p (.int .u64 (0)), .p (.int .i64 (1))]], .agg [.p (.bool false), .n 35, .p (.int .u64 (0)), .p (.int .i64 (1))]⟩
theorem stn79_ok : stn79.ok := NFact.by_run stl_ok (n := 300) (by kernel_rfl)
noncomputable def stn82 : NFact := ⟨173, [.one (.p (.int .i64 (64))), .agg [.p (.bool false), .n 1, .p (.int .u64 (0)), .p (.int .i64 (1))], .agg [.p (.bool true), .n 0, .p (.int .u64 (0)), .p (.int .i64 (0))]], .agg [.p (.bool false), .n 1, .p (.int .u64 (0)), .p (.int .i64 (1))]⟩
theorem stn82_ok : stn82.ok := NFact.by_run stl_ok (n := 300) (by kernel_rfl)
noncomputable def stn85 : NFact := ⟨173, [.one (.p (.int .i64 (64))), .agg [.p (.bool false), .n 1, .p (.int .u64 (0)), .p (.int .i64 (7))], .agg [.p (.bool true), .n 3, .p (.int .u64 (0)), .p (.int .i64 (3))]], .agg [.p (.bool false), .n 13, .p (.int .u64 (0)), .p (.int .i64 (3))]⟩
theorem stn85_ok : stn85.ok := NFact.by_run stl_ok (n := 300) (by kernel_rfl)
noncomputable def stn88 : NFact := ⟨173, [.one (.p (.int .i64 (64))), .agg [.p (.bool false), .n 1, .p (.int .u64 (0)), .p (.int .i64 (2))], .agg [.p (.bool false), .n 5, .p (.int .u64 (0)), .p (.int .i64 (2))]], .agg [.p (.bool false), .n 6, .p (.int .u64 (0)), .p (.int .i64 (2))]⟩
theorem stn88_ok : stn88.ok := NFact.by_run stl_ok (n := 300) (by kernel_rfl)
noncomputable def stn91 : NFact := ⟨178, [.one (.p (.int .i64 (64))), .agg [.p (.bool false), .n 1, .p (.int .u64 (0)), .p (.int .i64 (1))], .agg [.p (.bool false), .n 26, .p (.int .u64 (0)), .p (.int .i64 (2))]], .agg [.p (.bool false), .n 26, .p (.int .u64 (0)), .p (.int .i64 (3))]⟩
theorem stn91_ok : stn91.ok := NFact.by_run stl_ok (n := 300) (by kernel_rfl)
noncomputable def stn94 : NFact := ⟨173, [.one (.p (.int .i64 (64))), .agg [.p (.bool false), .n 1773725391702841502, .p (.int .u64 (1)), .p (.int .i64 (-63))], .agg [.p (.bool true), .n 12297829382473034410, .p (.int .u64 (2)), .p (.int .i64 (-66))]], .agg [.p (.bool false), .n 236496718893712201, .p (.int .u64 (3)), .p (.int .i64 (-63))]⟩
theorem stn94_ok : stn94.ok := NFact.by_run stl_ok (n := 300) (by kernel_rfl)
noncomputable def stn97 : NFact := ⟨173, [.one (.p (.int .i64 (64))), .agg [.p (.bool true), .n 4, .p (.int .u64 (0)), .p (.int .i64 (1))], .agg [.p (.bool false), .n 16, .p (.int .u64 (0)), .p (.int .i64 (1))]], .agg [.p (.bool false), .n 12, .p (.int .u64 (0)), .p (.int .i64 (1))]⟩
theorem stn97_ok : stn97.ok := NFact.by_run stl_ok (n := 300) (by kernel_rfl)
noncomputable def stn100 : NFact := ⟨173, [.one (.p (.int .i64 (64))), .agg [.p (.bool false), .n 12, .p (.int .u64 (0)), .p (.int .i64 (0))], .agg [.p (.bool false), .n 4, .p (.int .u64 (0)), .p (.int .i64 (1))]], .agg [.p (.bool false), .n 20, .p (.int .u64 (0)), .p (.int .i64 (0))]⟩
theorem stn100_ok : stn100.ok := NFact.by_run stl_ok (n := 300) (by kernel_rfl)
noncomputable def stn103 : NFact := ⟨173, [.one (.p (.int .i64 (64))), .agg [.p (.bool false), .n 1, .p (.int .u64 (0)), .p (.int .i64 (0))], .agg [.p (.bool true), .n 11068046444225730969, .p (.int .u64 (2)), .p (.int .i64 (-64))]], .agg [.p (.bool false), .n 3689348814741910324, .p (.int .u64 (2)), .p (.int .i64 (-63))]⟩
theorem stn103_ok : stn103.ok := NFact.by_run stl_ok (n := 300) (by kernel_rfl)
noncomputable def stn106 : NFact := ⟨173, [.one (.p (.int .i64 (64))), .agg [.p (.bool true), .n 4, .p (.int .u64 (0)), .p (.int .i64 (1))], .agg [.p (.bool false), .n 12, .p (.int .u64 (0)), .p (.int .i64 (0))]], .agg [.p (.bool false), .n 4, .p (.int .u64 (0)), .p (.int .i64 (0))]⟩
theorem stn106_ok : stn106.ok := NFact.by_run stl_ok (n := 300) (by kernel_rfl)
noncomputable def stn109 : NFact := ⟨173, [.one (.p (.int .i64 (64))), .agg [.p (.bool false), .n 1, .p (.int .u64 (0)), .p (.int .i64 (1))], .agg [.p (.bool false), .n 0, .p (.int .u64 (0)), .p (.int .i64 (0))]], .agg [.p (.bool false), .n 1, .p (.int .u64 (0)), .p (.int .i64 (1))]⟩
theorem stn109_ok : stn109.ok := NFact.by_run stl_ok (n := 300) (by kernel_rfl)
noncomputable def stn112 : NFact := ⟨173, [.one (.p (.int .i64 (64))), .agg [.p (.bool false), .n 1, .p (.int .u64 (0)), .p (.int .i64 (7))], .agg [.p (.bool false), .n 3, .p (.int .u64 (0)), .p (.int .i64 (3))]], .agg [.p (.bool false), .n 19, .p (.int .u64 (0)), .p (.int .i64 (3))]⟩
theorem stn112_ok : stn112.ok := NFact.by_run stl_ok (n := 300) (by kernel_rfl)
noncomputable def stn115 : NFact := ⟨173, [.one (.p (.int .i64 (64))), .agg [.p (.bool false), .n 1, .p (.int .u64 (0)), .p (.int .i64 (0))], .agg [.p (.bool true), .n 3, .p (.int .u64 (0)), .p (.int .i64 (0))]], .agg [.p (.bool true), .n 2, .p (.int .u64 (0)), .p (.int .i64 (0))]⟩
theorem stn115_ok : stn115.ok := NFact.by_run stl_ok (n := 300) (by kernel_rfl)
end Ev
end Go.Proofs.YtmioikbnjflldaaGreatDoor
