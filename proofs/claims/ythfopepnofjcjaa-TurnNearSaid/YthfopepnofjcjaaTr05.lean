/- Contracts, in this order: Points of the table, 2: each is the product that it should b -/
import Derived.Test.YthfopepnofjcjaaTr02
namespace Go.Proofs.Ythfopepnofjcjaa
open Go
namespace Tp
set_option maxRecDepth 100000
theorem pt_0_2048 : ptAll 0 2048 512 = true := by decide +kernel
theorem pt_0_2560 : ptAll 0 2560 512 = true := by decide +kernel
end Tp
end Go.Proofs.Ythfopepnofjcjaa
