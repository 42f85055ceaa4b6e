/- Contracts, in this order: Points of the table, 3: each is the product that it should b -/
import Derived.Test.YthfopepnofjcjaaTr02
namespace Go.Proofs.Ythfopepnofjcjaa
open Go
namespace Tp
set_option maxRecDepth 100000
theorem pt_0_3072 : ptAll 0 3072 512 = true := by decide +kernel
theorem pt_0_3584 : ptAll 0 3584 512 = true := by decide +kernel
end Tp
end Go.Proofs.Ythfopepnofjcjaa
