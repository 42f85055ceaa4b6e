/- Contracts, in this order: The runs of BoreCones. -/
import Derived.Test.YtnmmgicjlbmcbaaBc22
namespace Go.Proofs.Ytnmmgicjlbmcbaa
open Go Go.RowKit
namespace Ev
set_option maxRecDepth 100000
theorem crun6l : (List.range 10).map (fun j => coneRun 6 j true false) = (List.range 10).map (fun _ => coneYes) := by kernel_rfl
theorem crun6e : (List.range 10).map (fun j => coneRun 6 j false true) = (List.range 10).map (fun _ => coneYes) := by kernel_rfl
theorem crun6g : (List.range 10).map (fun j => coneRun 6 j false false) = (List.range 10).map (fun _ => coneYes) := by kernel_rfl
end Ev
end Go.Proofs.Ytnmmgicjlbmcbaa
