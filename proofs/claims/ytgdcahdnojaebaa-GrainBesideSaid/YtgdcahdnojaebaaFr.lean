/- Samples rise with levels (plain). -/
import Derived.Test.YtgdcahdnojaebaaFs
namespace Go.Proofs.Ytgdcahdnojaebaa
namespace Fl
open Ieee

theorem pow_parts (n a b : Nat) (h : n = a + b) : 2 ^ n = 2 ^ a * 2 ^ b := by rw [h, Nat.pow_add]
theorem P74_eq : P74 = 2 ^ 37 * 2 ^ 1037 := by unfold P74; exact pow_parts E74 37 1037 (by decide)
theorem V_KL : V (rg KL) = 32768 * P74 := by
  have e1 : rg KL = 4674736413210574848 := by decide
  rw [e1, P74_eq, show (2 : Nat) ^ 37 = 137438953472 by decide]
  unfold V
  rw [if_neg (by omega), show 4674736413210574848 / 4503599627370496 - 1 = 1037 by decide, show 4674736413210574848 % 4503599627370496 = 0 by decide]
  generalize 2 ^ 1037 = Q
  omega
theorem sv_KL : sv KL = 32768 * (P74 : Int) := by
  unfold sv
  rw [V_KL, show ngb KL = false by decide]
  show ((32768 * P74 : Nat) : Int) = _
  rw [Int.natCast_mul]; rfl
theorem isN_KL : IsN KL := by unfold IsN rg INF; decide
/-- -32768, -1, 0.9999 and 32765 as words. -/
def KM : Nat := 13898108450065350656
def KO : Nat := 13830554455654793216
def KN : Nat := 4607181518080091934
def KQ : Nat := 4674735588576854016
theorem sv_neg {x y : Nat} (hr : rg x = rg y) (hx : ngb x = true) (hy : ngb y = false) : sv x = -sv y := by
  unfold sv sg; rw [hr, hx, hy]; simp
theorem sv_KM : sv KM = -(32768 * (P74 : Int)) := by rw [← sv_KL]; exact sv_neg (by decide) (by decide) (by decide)
theorem near_KO : near KO = KM := by decide +kernel
theorem near_KN : near KN = KQ := by decide +kernel
theorem sv_lt_KL {x : Nat} (hr : rg x < rg KL) (hx : ngb x = false) : sv x < sv KL := by
  have := V_lt hr
  unfold sv; rw [hx, show ngb KL = false by decide]; unfold sg; simp; exact this
theorem sv_KQ : sv KQ < 32768 * (P74 : Int) := by rw [← sv_KL]; exact sv_lt_KL (by decide) (by decide)
theorem P74_pos : 0 < P74 := by unfold P74; exact Nat.two_pow_pos E74

/-- The sample's number, and whether it is within. -/
def smp (x : Nat) : Int := if sv KL ≤ sv (near x) then 32767 else if sv (near x) < sv KM then -32768 else tr (sv (near x))
def smpB (x : Nat) : Bool := if sv KL ≤ sv (near x) then false else if sv (near x) < sv KM then false else true
theorem tr_bd {T : Int} (h1 : sv KM ≤ T) (h2 : ¬ sv KL ≤ T) : -32768 ≤ tr T ∧ tr T ≤ 32767 := by
  rw [sv_KM] at h1
  rw [sv_KL] at h2
  unfold tr sg
  have hp := P74_pos
  by_cases h : T < 0
  · have : T.natAbs / P74 ≤ 32768 := Nat.div_le_of_le_mul (by rw [Nat.mul_comm]; omega)
    generalize T.natAbs / P74 = q at *
    simp only [h, decide_true, if_true]; omega
  · have : T.natAbs / P74 < 32768 := Nat.div_lt_of_lt_mul (by rw [Nat.mul_comm]; omega)
    generalize T.natAbs / P74 = q at *
    simp only [h, decide_false, Bool.false_eq_true, if_false]; omega
theorem smp_bd (x : Nat) : -32768 ≤ smp x ∧ smp x ≤ 32767 := by
  unfold smp
  split
  · omega
  · split
    · omega
    · exact tr_bd (by omega) (by omega)
theorem smp_mono {x y : Nat} (h : sv x ≤ sv y) : smp x ≤ smp y := by
  have h1 := near_mono h
  have b1 := smp_bd x; have b2 := smp_bd y
  by_cases a : sv KL ≤ sv (near y)
  · have e : smp y = 32767 := if_pos a
    omega
  · by_cases b : sv (near x) < sv KM
    · have e : smp x = -32768 := by unfold smp; rw [if_neg (by omega), if_pos b]
      omega
    · unfold smp
      rw [if_neg (by omega), if_neg b, if_neg a, if_neg (by omega)]
      exact tr_mono h1
/-- What lies from -1 to below 0.9999 is within. -/
theorem smp_within {x : Nat} (h1 : sv KO ≤ sv x) (h2 : sv x < sv KN) : smpB x = true := by
  have a := near_mono h1
  have b := near_mono (Int.le_of_lt h2)
  rw [near_KO] at a
  rw [near_KN] at b
  have := sv_KQ
  unfold smpB
  rw [sv_KL, if_neg (by omega), if_neg (by omega)]
theorem smp_out {x : Nat} (h : smpB x = false) : smp x = 32767 ∨ smp x = -32768 := by
  unfold smpB at h; unfold smp
  split at h
  · rw [if_pos ‹_›]; exact .inl rfl
  · rw [if_neg ‹_›]
    split at h
    · rw [if_pos ‹_›]; exact .inr rfl
    · cases h
end Fl
end Go.Proofs.Ytgdcahdnojaebaa
