/- Contracts, in this order: The runs of BoreCones. -/
import Derived.Test.YtnmmgicjlbmcbaaBc22
namespace Go.Proofs.Ytnmmgicjlbmcbaa
open Go Go.RowKit
namespace Ev
set_option maxRecDepth 100000
theorem crun1l : (List.range 10).map (fun j => coneRun 1 j true false) = (List.range 10).map (fun _ => coneYes) := by kernel_rfl
theorem crun1e : (List.range 10).map (fun j => coneRun 1 j false true) = (List.range 10).map (fun _ => coneYes) := by kernel_rfl
theorem crun1g : (List.range 10).map (fun j => coneRun 1 j false false) = (List.range 10).map (fun _ => coneYes) := by kernel_rfl
theorem crun2l : (List.range 10).map (fun j => coneRun 2 j true false) = (List.range 10).map (fun _ => coneYes) := by kernel_rfl
theorem crun2e : (List.range 10).map (fun j => coneRun 2 j false true) = (List.range 10).map (fun _ => coneYes) := by kernel_rfl
theorem crun2g : (List.range 10).map (fun j => coneRun 2 j false false) = (List.range 10).map (fun _ => coneYes) := by kernel_rfl
theorem crun3l : (List.range 10).map (fun j => coneRun 3 j true false) = (List.range 10).map (fun _ => coneYes) := by kernel_rfl
theorem crun3e : (List.range 10).map (fun j => coneRun 3 j false true) = (List.range 10).map (fun _ => coneYes) := by kernel_rfl
theorem crun3g : (List.range 10).map (fun j => coneRun 3 j false false) = (List.range 10).map (fun _ => coneYes) := by kernel_rfl
theorem crun4l : (List.range 10).map (fun j => coneRun 4 j true false) = (List.range 10).map (fun _ => coneYes) := by kernel_rfl
theorem crun4e : (List.range 10).map (fun j => coneRun 4 j false true) = (List.range 10).map (fun _ => coneYes) := by kernel_rfl
theorem crun4g : (List.range 10).map (fun j => coneRun 4 j false false) = (List.range 10).map (fun _ => coneYes) := by kernel_rfl
end Ev
end Go.Proofs.Ytnmmgicjlbmcbaa
