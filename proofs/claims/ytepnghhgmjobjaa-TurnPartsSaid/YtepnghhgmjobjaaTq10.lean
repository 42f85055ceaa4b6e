/- Contracts, in this order: All products of the parts of a turn whose first three bits a -/
import Derived.Test.YtepnghhgmjobjaaTq01
namespace Go.Proofs.Ytepnghhgmjobjaa
open Go
namespace Tp
set_option maxRecDepth 100000
theorem leaf4 : allP (pl.drop 4) (4606496786581982534, 4600565431771507043) = true := by decide +kernel
theorem leaf5 : allP (pl.drop 4) (4606118860100255153, 4602163548591158844) = true := by decide +kernel
theorem leaf6 : allP (pl.drop 4) (4605664432017547682, 4603179351334086856) = true := by decide +kernel
theorem leaf7 : allP (pl.drop 4) (4605137878724712256, 4603889326261607894) = true := by decide +kernel
end Tp
end Go.Proofs.Ytepnghhgmjobjaa
