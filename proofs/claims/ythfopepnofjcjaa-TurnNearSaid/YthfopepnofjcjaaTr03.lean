/- Contracts, in this order: Points of the table, 0: each is the product that it should b -/
import Derived.Test.YthfopepnofjcjaaTr02
namespace Go.Proofs.Ythfopepnofjcjaa
open Go
namespace Tp
set_option maxRecDepth 100000
theorem pt_0_0 : ptAll 0 0 512 = true := by decide +kernel
theorem pt_0_512 : ptAll 0 512 512 = true := by decide +kernel
end Tp
end Go.Proofs.Ythfopepnofjcjaa
