/- Contracts, in this order: Points of the table, 7: each is the product that it should b -/
import Derived.Test.YthfopepnofjcjaaTr02
namespace Go.Proofs.Ythfopepnofjcjaa
open Go
namespace Tp
set_option maxRecDepth 100000
theorem pt_3_0 : ptAll 3 0 512 = true := by decide +kernel
theorem pt_4_0 : ptAll 4 0 256 = true := by decide +kernel
theorem pt_5_0 : ptAll 5 0 128 = true := by decide +kernel
theorem pt_6_0 : ptAll 6 0 64 = true := by decide +kernel
theorem pt_7_0 : ptAll 7 0 32 = true := by decide +kernel
theorem pt_8_0 : ptAll 8 0 16 = true := by decide +kernel
theorem pt_9_0 : ptAll 9 0 8 = true := by decide +kernel
theorem pt_10_0 : ptAll 10 0 4 = true := by decide +kernel
theorem pt_11_0 : ptAll 11 0 2 = true := by decide +kernel
theorem pt_12_0 : ptAll 12 0 1 = true := by decide +kernel
theorem pt_13_0 : ptAll 13 0 1 = true := by decide +kernel
end Tp
end Go.Proofs.Ythfopepnofjcjaa
