/- Contracts, in this order: Plain laws of fractions. -/
import Derived.Test.YtjhoiichkgjdaaaDoorLw13
/- Plain laws of fractions. -/
namespace Go.Proofs.YtjhoiichkgjdaaaDoor
open Go.RowKit

theorem quo_back {x y : Rat} (h : y ≠ 0) : x * y / y = x := by
  rw [Rat.div_def, Rat.mul_assoc, Rat.mul_inv_cancel y h, Rat.mul_one]
theorem cmp_sgn (x y : Rat) : Big.cmpQ x y = sgQ (x - y) := by
  unfold Big.cmpQ sgQ
  have hng : Big.ng (x - y) = decide ((x - y).num < 0) := rfl
  have hnu : Big.nu (x - y) = (x - y).num.natAbs := rfl
  rw [hng, hnu]
  have hle : 0 ≤ (x - y).num ↔ y ≤ x := by rw [Rat.num_nonneg]; exact (Rat.le_iff_sub_nonneg y x).symm
  by_cases h1 : x < y
  · have : ¬ y ≤ x := Rat.not_le.2 h1
    have h0 : ¬ 0 ≤ (x - y).num := fun h => this (hle.1 h)
    rw [if_pos h1, if_pos (decide_eq_true (by omega))]
  · have h2 : y ≤ x := Rat.not_lt.1 h1
    have h3 := hle.2 h2
    have h4 : ¬ (decide ((x - y).num < 0) = true) := fun hd => by have := of_decide_eq_true hd; omega
    rw [if_neg h1, if_neg h4]
    by_cases e : x = y
    · subst e
      rw [if_pos rfl, Rat.sub_self]; rfl
    · rw [if_neg e, if_neg]
      intro hz
      have h5 : (x - y).num = 0 := by omega
      have h6 := Rat.num_eq_zero.1 h5
      apply e
      have h7 : x - y + y = x := by rw [Rat.sub_eq_add_neg, Rat.add_assoc, Rat.neg_add_cancel, Rat.add_zero]
      rw [← h7, h6, Rat.zero_add]
theorem ne_zero_of_nu {y : Rat} (h : Big.nu y ≠ 0) : y ≠ 0 := by
  intro e; subst e; exact h rfl
theorem nu_of_sg {y : Rat} (h : sgQ y ≠ 0) : Big.nu y ≠ 0 := by
  intro e
  apply h
  unfold sgQ
  have : ¬ Big.ng y = true := fun hb => by have := Big.ng_pos hb; omega
  rw [if_neg this, if_pos e]
end Go.Proofs.YtjhoiichkgjdaaaDoor
