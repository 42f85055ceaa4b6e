/- Contracts, in this order: Points of the table, 6: each is the product that it should b -/
import Derived.Test.YthfopepnofjcjaaTr02
namespace Go.Proofs.Ythfopepnofjcjaa
open Go
namespace Tp
set_option maxRecDepth 100000
theorem pt_2_0 : ptAll 2 0 512 = true := by decide +kernel
theorem pt_2_512 : ptAll 2 512 512 = true := by decide +kernel
end Tp
end Go.Proofs.Ythfopepnofjcjaa
