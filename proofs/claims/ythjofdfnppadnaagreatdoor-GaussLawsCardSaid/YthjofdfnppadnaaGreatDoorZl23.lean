/- Contracts, in this order: diapasonlaw02.GaussLaws, run over all numbers that may be. -/
import Derived.Test.YthjofdfnppadnaaGreatDoorZl22
namespace Go.Proofs.YthjofdfnppadnaaGreatDoor
open Go Go.RowKit
namespace Ev
set_option maxRecDepth 100000
theorem laws_tt : ∀ r s t u v : Bool, lrun lE (lB7 true true r s t u v) (inp6 true true true true true true) = some yes := by
  intro r s t u v
  cases r <;> cases s <;> cases t <;> cases u <;> cases v <;> kernel_rfl
theorem laws_tf : ∀ r s t u v : Bool, lrun lE (lB7 true false r s t u v) (inp6 true true true true true true) = some yes := by
  intro r s t u v
  cases r <;> cases s <;> cases t <;> cases u <;> cases v <;> kernel_rfl
theorem laws_ft : ∀ r s t u v : Bool, lrun lE (lB7 false true r s t u v) (inp6 true true true true true true) = some yes := by
  intro r s t u v
  cases r <;> cases s <;> cases t <;> cases u <;> cases v <;> kernel_rfl
theorem laws_ff : ∀ r s t u v : Bool, lrun lE (lB7 false false r s t u v) (inp6 true true true true true true) = some yes := by
  intro r s t u v
  cases r <;> cases s <;> cases t <;> cases u <;> cases v <;> kernel_rfl
theorem laws_all (p q r s t u v : Bool) : lrun lE (lB7 p q r s t u v) (inp6 true true true true true true) = some yes := by
  cases p <;> cases q
  · exact laws_ff r s t u v
  · exact laws_ft r s t u v
  · exact laws_tf r s t u v
  · exact laws_tt r s t u v
end Ev
end Go.Proofs.YthjofdfnppadnaaGreatDoor
