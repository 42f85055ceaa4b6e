/- Contracts. -/
import Derived.Test.YtnlhjcfpfapafaaGreatDoorPOq32
namespace Go.Proofs.YtnlhjcfpfapafaaGreatDoor
open Go.ChangeShapes Go.WideShapes Go.ChangeAt Go.RowKit
def ZcH : List (String × DataW Unit) := [("math/bits.deBruijn32tab", Rows.laid_math_bits_deBruijn32tab), ("math/bits.deBruijn64tab", Rows.laid_math_bits_deBruijn64tab), ("internal/strconv.uint64pow10", Rows.laid_internal_strconv_uint64pow10)]
set_option maxRecDepth 100000 in
theorem Zjo (os : Os) (args : Array Value) : laidMetH Tryz.prog ZcH ((World.doorLaid Tryz.prog 4000 os).forCall (fun _ _ => 0) ⟨#[], args, []⟩).memory :=
 laidMetH_of_parts3 (fuel := 8) (laidMet_of_run' 8 (by kernel_rfl) (by kernel_rfl)) (by kernel_rfl) (by kernel_rfl)
theorem Zo0 : (Tryz.prog.globals[3]?).map (·.type) = some 192 := by kernel_rfl
theorem Zo1 : Tryz.prog.cellsOf 192 = 20 := by kernel_rfl
theorem ZoJ : Tryz.prog.cellsOf 112 = 1 := by kernel_rfl
theorem Zo2 : (Rows.laid_internal_strconv_uint64pow10 : DataW Unit) = Lib.tabData .u64 Lib.pow10Tab := by rfl
theorem ZcI {W : World} (h : laidMetH Tryz.prog ZcH W) : Tab W := by
 rw [MakeChecks.laidMetH_plain _ _ _ (by kernel_rfl)] at h
 obtain ⟨ps, ⟨g0, t0, cs0, f0, p0, q0, hg0, ht0, hv0, hd0, ⟨g1, t1, cs1, f1, p1, q1, hg1, ht1, hv1, hd1, ⟨g2, t2, cs2, f2, p2, q2, hg2, ht2, hv2, hd2, _, _⟩, _⟩, _⟩, _, _⟩ := h
 obtain rfl := Option.some.inj (ZoZ.symm.trans hg2)
 obtain rfl := Option.some.inj (Zo0.symm.trans ht2)
 rw [Zo2] at hd2
 show World.var? Tryz.prog W _ = _
 rw [hv2, ← Lib.cells_of_tab Tryz.underlying192 Tryz.underlying112 ZoJ Zo1 hd2]
end Go.Proofs.YtnlhjcfpfapafaaGreatDoor
