/- Contracts, in this order: All products of the parts of a turn whose first three bits a -/
import Derived.Test.YtepnghhgmjobjaaTq01
namespace Go.Proofs.Ytepnghhgmjobjaa
open Go
namespace Tp
set_option maxRecDepth 100000
theorem leaf0 : allP (pl.drop 4) (4607182418800017408, 0) = true := by decide +kernel
theorem leaf1 : allP (pl.drop 4) (4607139046673687846, 4591727299969791020) = true := by decide +kernel
theorem leaf2 : allP (pl.drop 4) (4607009347991985328, 4596196889902818827) = true := by decide +kernel
theorem leaf3 : allP (pl.drop 4) (4606794571824115162, 4598900923775164166) = true := by decide +kernel
end Tp
end Go.Proofs.Ytepnghhgmjobjaa
