/- Contracts, in this order: Points of the table, 4: each is the product that it should b -/
import Derived.Test.YthfopepnofjcjaaTr02
namespace Go.Proofs.Ythfopepnofjcjaa
open Go
namespace Tp
set_option maxRecDepth 100000
theorem pt_1_0 : ptAll 1 0 512 = true := by decide +kernel
theorem pt_1_512 : ptAll 1 512 512 = true := by decide +kernel
end Tp
end Go.Proofs.Ythfopepnofjcjaa
