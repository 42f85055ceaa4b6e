/- Contracts, in this order: Points of the table, 5: each is the product that it should b -/
import Derived.Test.YthfopepnofjcjaaTr02
namespace Go.Proofs.Ythfopepnofjcjaa
open Go
namespace Tp
set_option maxRecDepth 100000
theorem pt_1_1024 : ptAll 1 1024 512 = true := by decide +kernel
theorem pt_1_1536 : ptAll 1 1536 512 = true := by decide +kernel
end Tp
end Go.Proofs.Ythfopepnofjcjaa
