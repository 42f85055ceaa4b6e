/- Floats as whole numbers: rounding by rungs rises with what is rounded. -/
import Ieee.Arith
namespace Go.Proofs.Ytgdcahdnojaebaa
namespace Fl
open Ieee

/-- The whole number nearest to n / g, of two the even one. -/
def rne (n g : Nat) : Nat := n / g + (decide (g < 2 * (n % g)) || (g == 2 * (n % g) && n / g % 2 == 1)).toNat

theorem rne_le (n g : Nat) : rne n g ≤ n / g + 1 := by
  unfold rne; have := Bool.toNat_le (decide (g < 2 * (n % g)) || (g == 2 * (n % g) && n / g % 2 == 1)); omega
theorem le_rne (n g : Nat) : n / g ≤ rne n g := by unfold rne; omega
theorem rne_one (n : Nat) : rne n 1 = n := by
  unfold rne; simp [Nat.mod_one]
theorem rne_mono {m n g : Nat} (h : m ≤ n) : rne m g ≤ rne n g := by
  have hq := Nat.div_le_div_right (c := g) h
  rcases Nat.lt_or_eq_of_le hq with hl | he
  · have := rne_le m g; have := le_rne n g; omega
  · have em := Nat.div_add_mod m g; have en := Nat.div_add_mod n g
    rw [he] at em
    have hr : m % g ≤ n % g := by omega
    unfold rne
    rw [he]
    apply Nat.add_le_add_left
    generalize m % g = a at *; generalize n % g = b at *; generalize n / g % 2 = c
    by_cases h1 : g < 2 * b
    · have : (decide (g < 2 * b) || (g == 2 * b && c == 1)) = true := by simp [h1]
      rw [this]; exact Bool.toNat_le _
    · have h2 : ¬ g < 2 * a := by omega
      rw [decide_eq_false h1, decide_eq_false h2]
      by_cases h3 : g = 2 * a
      · have h4 : g = 2 * b := by omega
        rw [show (g == 2 * a) = true from by simp [h3], show (g == 2 * b) = true from by simp [h4]]
        exact Nat.le_refl _
      · rw [show (g == 2 * a) = false from by simp [h3]]; simp
theorem rne_scale {k : Nat} (hk : 0 < k) (n g : Nat) : rne (n * k) (g * k) = rne n g := by
  unfold rne
  rw [Nat.mul_div_mul_right _ _ hk, Nat.mul_mod_mul_right]
  have e : 2 * (n % g * k) = (2 * (n % g)) * k := by rw [Nat.mul_assoc]
  rw [e]
  generalize 2 * (n % g) = a
  have h1 : decide (g * k < a * k) = decide (g < a) := decide_eq_decide.2 (Nat.mul_lt_mul_right hk)
  have h2 : (g * k == a * k) = (g == a) := by
    rw [Bool.eq_iff_iff]; simp only [beq_iff_eq]
    exact ⟨fun h => Nat.eq_of_mul_eq_mul_right hk h, fun h => by rw [h]⟩
  rw [h1, h2]

theorem cut_even (neg : Bool) (n drop : Nat) : Toward.even.cut neg n drop = rne n (2 ^ drop) := by
  unfold Toward.cut
  simp only [Nat.one_shiftLeft]
  by_cases h : drop ≤ n.log2 + 2
  · rw [Nat.min_eq_left h]; rfl
  · rw [Nat.min_eq_right (by omega)]
    have hn : n < 2 ^ (n.log2 + 1) := Nat.lt_log2_self
    have h2 : 2 ^ (n.log2 + 2) = 2 * 2 ^ (n.log2 + 1) := by rw [Nat.pow_succ, Nat.mul_comm]
    have h3 : 2 ^ (n.log2 + 2) ≤ 2 ^ drop := Nat.pow_le_pow_right (by omega) (by omega)
    have z : ∀ g, 2 * n < g → rne n g = 0 := by
      intro g hg
      unfold rne
      rw [Nat.div_eq_of_lt (by omega), Nat.mod_eq_of_lt (by omega), decide_eq_false (by omega), show (g == 2 * n) = false from by simp; omega]
      rfl
    rw [z (2 ^ drop) (by omega), ← z (2 ^ (n.log2 + 2)) (by omega)]
    rfl

/-- The rung nearest to m * 2 ^ p. -/
def lastOf (m : Nat) (p : Int) : Int := max (p + m.log2 - 52) (-1074)
def kept (m : Nat) (p : Int) : Nat := rne (m * 2 ^ (p - lastOf m p).toNat) (2 ^ (lastOf m p - p).toNat)
def rung (m : Nat) (p : Int) : Nat := if m = 0 then 0 else min ((lastOf m p + 1074).toNat * 4503599627370496 + kept m p) 9218868437227405312

theorem nearest_eq (neg : Bool) (m : Nat) (p : Int) : double.nearest neg m p = double.word neg (rung m p) := by
  unfold Format.nearest rung
  by_cases h : m = 0
  · rw [if_pos h, if_pos h]
  · rw [if_neg h, if_neg h]
    have e1 : double.leastPlace = -1074 := by decide
    have e2 : double.binade = 4503599627370496 := by decide
    have e3 : double.infRung = 9218868437227405312 := by decide
    have e4 : (double.fractionBits : Int) = 52 := rfl
    simp only [e1, e2, e3, e4, cut_even, Nat.shiftLeft_eq, Int.sub_neg]
    rfl

theorem log2_mul_pow (m k : Nat) (h : m ≠ 0) : (m * 2 ^ k).log2 = m.log2 + k := by
  induction k with
  | zero => simp
  | succ k ih => rw [Nat.pow_succ, ← Nat.mul_assoc, Nat.mul_comm _ 2, Nat.log2_two_mul (Nat.mul_ne_zero h (by have := Nat.two_pow_pos k; omega)), ih]; omega

theorem rung_shift (m k : Nat) (p : Int) : rung (m * 2 ^ k) p = rung m (p + k) := by
  have hk := Nat.two_pow_pos k
  unfold rung
  by_cases h : m = 0
  · simp [h]
  · have h' : m * 2 ^ k ≠ 0 := Nat.mul_ne_zero h (by omega)
    rw [if_neg h, if_neg h']
    have hl : lastOf (m * 2 ^ k) p = lastOf m (p + k) := by unfold lastOf; rw [log2_mul_pow m k h]; push_cast; congr 1; omega
    have hkept : kept (m * 2 ^ k) p = kept m (p + k) := by
      unfold kept
      rw [hl]
      generalize lastOf m (p + k) = l
      rcases Int.le_total l p with h1 | h1
      · rw [show (l - p).toNat = 0 by omega, show (l - (p + k)).toNat = 0 by omega, show (p + k - l).toNat = k + (p - l).toNat by omega, Nat.pow_add, Nat.mul_assoc]
      · rcases Int.le_total l (p + k) with h2 | h2
        · have e : k = (p + k - l).toNat + (l - p).toNat := by omega
          rw [show (p - l).toNat = 0 by omega, show (l - (p + k)).toNat = 0 by omega]
          have := rne_scale (Nat.two_pow_pos (l - p).toNat) (m * 2 ^ (p + k - l).toNat) 1
          rw [Nat.mul_assoc, ← Nat.pow_add, ← e] at this
          simpa using this
        · rw [show (p - l).toNat = 0 by omega, show (p + k - l).toNat = 0 by omega, show (l - p).toNat = (l - (p + k)).toNat + k by omega, Nat.pow_add]
          simpa using rne_scale hk m (2 ^ (l - (p + k)).toNat)
    rw [hl, hkept]

theorem rung_le (m : Nat) (p : Int) : rung m p ≤ 9218868437227405312 := by
  unfold rung; split
  · omega
  · exact Nat.min_le_right _ _

theorem kept_le (m : Nat) (p : Int) : kept m p ≤ 9007199254740992 := by
  unfold kept
  have hm : m < 2 ^ (m.log2 + 1) := Nat.lt_log2_self
  have hl : p + m.log2 - 52 ≤ lastOf m p := by unfold lastOf; omega
  generalize lastOf m p = l at *
  rcases Int.le_total l p with h | h
  · rw [show (l - p).toNat = 0 by omega, Nat.pow_zero, rne_one]
    have h1 : m * 2 ^ (p - l).toNat < 2 ^ (m.log2 + 1) * 2 ^ (p - l).toNat := Nat.mul_lt_mul_of_pos_right hm (Nat.two_pow_pos _)
    rw [← Nat.pow_add] at h1
    have h2 : 2 ^ (m.log2 + 1 + (p - l).toNat) ≤ 2 ^ 53 := Nat.pow_le_pow_right (by omega) (by omega)
    omega
  · rw [show (p - l).toNat = 0 by omega, Nat.pow_zero, Nat.mul_one]
    have h2 : 2 ^ (m.log2 + 1) ≤ 2 ^ (53 + (l - p).toNat) := Nat.pow_le_pow_right (by omega) (by omega)
    rw [Nat.pow_add 2 53] at h2
    have h3 : m / 2 ^ (l - p).toNat < 2 ^ 53 := Nat.div_lt_of_lt_mul (by rw [Nat.mul_comm]; omega)
    have := rne_le m (2 ^ (l - p).toNat)
    omega
theorem le_kept (m : Nat) (p : Int) (h0 : m ≠ 0) (hl : lastOf m p = p + m.log2 - 52) : 4503599627370496 ≤ kept m p := by
  unfold kept
  have hm : 2 ^ m.log2 ≤ m := Nat.log2_self_le h0
  rw [hl]
  rcases Nat.le_total m.log2 52 with h | h
  · rw [show (p + m.log2 - 52 - p).toNat = 0 by omega, Nat.pow_zero, rne_one, show (p - (p + m.log2 - 52)).toNat = 52 - m.log2 by omega]
    have h1 : 2 ^ m.log2 * 2 ^ (52 - m.log2) ≤ m * 2 ^ (52 - m.log2) := Nat.mul_le_mul_right _ hm
    rw [← Nat.pow_add, show m.log2 + (52 - m.log2) = 52 by omega] at h1
    exact h1
  · rw [show (p - (p + m.log2 - 52)).toNat = 0 by omega, Nat.pow_zero, Nat.mul_one, show (p + m.log2 - 52 - p).toNat = m.log2 - 52 by omega]
    refine Nat.le_trans ?_ (le_rne _ _)
    rw [Nat.le_div_iff_mul_le (Nat.two_pow_pos _), show 4503599627370496 = 2 ^ 52 from rfl, ← Nat.pow_add, show 52 + (m.log2 - 52) = m.log2 by omega]
    exact hm

theorem log2_mono {m n : Nat} (h0 : m ≠ 0) (h : m ≤ n) : m.log2 ≤ n.log2 := by
  have h1 := Nat.log2_self_le h0
  have h2 : n < 2 ^ (n.log2 + 1) := Nat.lt_log2_self
  have h3 : 2 ^ m.log2 < 2 ^ (n.log2 + 1) := by omega
  have := (Nat.pow_lt_pow_iff_right (a := 2) (by omega)).1 h3
  omega

theorem rung_mono {m n : Nat} (p : Int) (h : m ≤ n) : rung m p ≤ rung n p := by
  by_cases h0 : m = 0
  · unfold rung; rw [if_pos h0]; omega
  have hn : n ≠ 0 := by omega
  have hlog := log2_mono h0 h
  unfold rung
  rw [if_neg h0, if_neg hn]
  have key : (lastOf m p + 1074).toNat * 4503599627370496 + kept m p ≤ (lastOf n p + 1074).toNat * 4503599627370496 + kept n p := by
    by_cases he : lastOf m p = lastOf n p
    · rw [he]
      apply Nat.add_le_add_left
      unfold kept
      rw [he]
      exact rne_mono (Nat.mul_le_mul_right _ h)
    · have h1 := kept_le m p
      have hlt : lastOf m p < lastOf n p := by unfold lastOf at *; omega
      have hln : lastOf n p = p + n.log2 - 52 := by unfold lastOf at *; omega
      have hm : -1074 ≤ lastOf m p := by unfold lastOf; omega
      have h2 := le_kept n p hn hln
      have : (lastOf m p + 1074).toNat + 1 ≤ (lastOf n p + 1074).toNat := by omega
      omega
  omega
end Fl
end Go.Proofs.Ytgdcahdnojaebaa
