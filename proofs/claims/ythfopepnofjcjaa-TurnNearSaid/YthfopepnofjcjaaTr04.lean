/- Contracts, in this order: Points of the table, 1: each is the product that it should b -/
import Derived.Test.YthfopepnofjcjaaTr02
namespace Go.Proofs.Ythfopepnofjcjaa
open Go
namespace Tp
set_option maxRecDepth 100000
theorem pt_0_1024 : ptAll 0 1024 512 = true := by decide +kernel
theorem pt_0_1536 : ptAll 0 1536 512 = true := by decide +kernel
end Tp
end Go.Proofs.Ythfopepnofjcjaa
